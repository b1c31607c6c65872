/- Texts of one chain, in one file. -/
import Derived.Lib.QuietBelow
import Derived.Test.YtefmnjcllncmpaaQB
/- Arrow of the reference. -/
namespace Go.Proofs.Ytefmnjcllncmpaa
set_option linter.unusedVariables false
set_option linter.unusedSimpArgs false
open Go.RowKit
theorem Bk.go {w w' : World} {g : Nat} {t : TypeId} {cs : Array Value} (h : Bk w g t cs) (hb : Below w.heap.size w w') : Bk w' g t cs := h.below hb h.lt
theorem getD_of {l : List (Int × Int)} {t : Nat} {e : Int × Int} (h : l[t]? = some e) : l.getD t (0, 0) = e := by rw [List.getD, h]; rfl
/-- the cells of a stream at an instant, in any later world -/
theorem RdC.inst {w : World} {A : Option Addr} {l : List (Int × Int)} {t : Nat} (h : RdC w w.heap.size A l) (ht : t < l.length) : ∃ ad e0 e1, A = some ad ∧ l[t]? = some (e0, e1) ∧ Hid (∀ W, Below w.heap.size w W → W.cell? (ad.add (t * 2)) = some (.int .i64 e0) ∧ W.cell? ⟨(ad.add (t * 2)).block, (ad.add (t * 2)).off + 1, none⟩ = some (.int .i64 e1)) := by
  obtain ⟨ad, ⟨e0, e1⟩, hA, hb, he, h1, h2⟩ := h.at_ ht
  exact ⟨ad, e0, e1, hA, he, Lib.hid fun W hW => ⟨(hW.cell (by rw [add_block]; exact hb)).trans h1, (hW.cell (p := ⟨(ad.add (t * 2)).block, (ad.add (t * 2)).off + 1, none⟩) (by rw [add_block]; exact hb)).trans h2⟩⟩
end Go.Proofs.Ytefmnjcllncmpaa
/- Dense of both, Same, is. -/
namespace Go.Proofs.Ytefmnjcllncmpaa
set_option linter.unusedVariables false
set_option linter.unusedSimpArgs false
open Go.RowKit
attribute [local go_sem] cell_eql cell_neq cell_eqg
theorem row1a (w : World) (o : Obj) (u : Value) (t : TypeId) : ∀ j v, [u][j]? = some v → ((w.alloc o).alloc (.cells #[u] t)).cell? ((⟨w.heap.size + 1, 0, none⟩ : Addr).add j) = some v := by
  have h := cell_one_new' (w.alloc o) u t
  rw [World.size_alloc] at h
  exact h
set_option maxHeartbeats 2000000 in
theorem same_any (A B : Option Addr) (c d : Nat) (l : List (Int × Int)) (w : World) (hA : RdC w w.heap.size A l) (hB : RdC w w.heap.size B l) (hl : l.length ≤ 1000000) :
    Calls Try.prog 11 #[.slice A l.length c, .slice B l.length d] w (Bel (.bool true) w) := by
  go_enter Try.func11, Try.ntmps11
  go_wp2
  go_loopw [5] (fun i wr => ∃ k : Nat, k ≤ l.length ∧ i = .int .i64 (k : Int) ∧ Below w.heap.size w wr) (fun i _ => l.length - (intOf i).toNat)
  case atStart => exact ⟨0, by omega, rfl, Below.refl _ _⟩
  case round =>
    obtain ⟨k, hk, rfl, hbl⟩ := hrel
    by_cases hlt : k < l.length
    · obtain ⟨adA, e0, e1, rfl, hea, HEA⟩ := hA.inst hlt
      obtain ⟨adB, f0, f1, rfl, heb, HEB⟩ := hB.inst hlt
      obtain ⟨rfl, rfl⟩ : e0 = f0 ∧ e1 = f1 := by rw [hea] at heb; simpa using heb
      obtain ⟨a0, a1⟩ := HEA.out wr hbl
      obtain ⟨b0, b1⟩ := HEB.out wr hbl
      have HK : Hid (∀ W, Below w.heap.size w W → W.cell? (adA.add (k * 2)) = some (.int .i64 e0) ∧ W.cell? ⟨(adA.add (k * 2)).block, (adA.add (k * 2)).off + 1, none⟩ = some (.int .i64 e1) ∧ W.cell? (adB.add (k * 2)) = some (.int .i64 e0) ∧ W.cell? ⟨(adB.add (k * 2)).block, (adB.add (k * 2)).off + 1, none⟩ = some (.int .i64 e1)) := Lib.hid fun W hW => ⟨(HEA.out W hW).1, (HEA.out W hW).2, (HEB.out W hW).1, (HEB.out W hW).2⟩
      clear hea heb HEA HEB
      go_wp2
      go_region_held3 (fun W => W.cell? (adA.add (k * 2)) = some (.int .i64 e0) ∧ W.cell? ⟨(adA.add (k * 2)).block, (adA.add (k * 2)).off + 1, none⟩ = some (.int .i64 e1) ∧ W.cell? (adB.add (k * 2)) = some (.int .i64 e0) ∧ W.cell? ⟨(adB.add (k * 2)).block, (adB.add (k * 2)).off + 1, none⟩ = some (.int .i64 e1))
        ((refine HK.out _ ?_; (focus ((repeat (first | (with_reducible exact Below.refl _ _) | (with_reducible assumption) | (with_reducible exact bel_box _) | (with_reducible refine bel_step ?_ (by with_reducible assumption)) | (with_reducible refine Below.drew ?_) | (with_reducible refine below_drewN ?_ _) | (with_reducible refine bel_alloc ?_ _))); done))))
        (first | (fail))
      go_wp2
      go_roundw
      case rel => exact ⟨k + 1, by omega, by go_num, (by repeat (first | (with_reducible exact Below.refl _ _) | (with_reducible assumption) | (with_reducible exact bel_box _) | (with_reducible refine bel_step ?_ (by with_reducible assumption)) | (with_reducible refine Below.drew ?_) | (with_reducible refine below_drewN ?_ _) | (with_reducible refine bel_alloc ?_ _)))⟩
      case measure => simp [intOf]; omega
    · obtain rfl : k = l.length := by omega
      go_wp2
      go_ret
      exact ⟨rfl, hbl⟩
set_option maxHeartbeats 2000000 in
theorem is_any (A : Option Addr) (c : Nat) (l : List Int) (w : World) (hA : Rd w w.heap.size A (is_ l)) (hl : l.length ≤ 1000) :
    Calls Try.prog 33 #[.slice A l.length c] w (NewC (l.map fun v => (1, v)) w) := by
  obtain ⟨i0, hi, iz, is, ib⟩ := cellParts
  have HA := Lib.hid hA
  clear hA
  go_enter Try.func33, Try.ntmps33
  go_wp2
  go_loopw [3, 4] (fun v i wr => ∃ k : Nat, k ≤ l.length ∧ i = .int .i64 (k : Int) ∧ Hid (wr.ownsRow w.heap.size 46 2 v k (fl ((l.take k).map fun v => (1, v)))) ∧ Below w.heap.size w wr) (fun _ i _ => l.length - (intOf i).toNat)
  case atStart => exact ⟨0, by omega, rfl, Lib.hid (World.ownsRow_nil _ _ _ _), Below.refl _ _⟩
  case round =>
    obtain ⟨k, hk, rfl, hown, hbl⟩ := hrel
    have hsz := hbl.size
    by_cases hlt : k < l.length
    · obtain ⟨ad, e, rfl, hadb, he, hc1⟩ := (HA.out.to hbl).int_at hlt
      have HT := Lib.hid (show (l.take (k + 1)).map (fun v => ((1, v) : Int × Int)) = (l.take k).map (fun v => (1, v)) ++ [(1, e)] by rw [take_succ_of he]; simp)
      generalize (l.take k).map (fun v => ((1, v) : Int × Int)) = xs at *
      clear he hadb
      go_wp2_with (at_builtin; refine wpList_append_own_at _ rfl _ _ 26 rfl w.heap.size 46 i0 (.agg #[.int .i64 0, .int .i64 0]) 2 16 Try.underlying26 hi iz is ib rfl (by decide) _ k (fl xs) rfl (own2_keep hown.out (by repeat (first | (with_reducible exact Below.refl _ _) | (with_reducible assumption) | (with_reducible exact bel_box _) | (with_reducible refine bel_step ?_ (by with_reducible assumption)) | (with_reducible refine Below.drew ?_) | (with_reducible refine below_drewN ?_ _) | (with_reducible refine bel_alloc ?_ _)))) ⟨_, 0, none⟩ 1 1 [.int .i64 1, .int .i64 e] rfl rfl (row2 _ _ _ _) (c_one _ _) (by unfold maxLen; omega) (by omega) (by simp; omega) ?_; intro v3 w3 hown3 hgrow3 _ _)
      have hb3 : Below w.heap.size w w3 := own2_below hgrow3 rfl hown.out (by simp; omega) (by repeat (first | (with_reducible exact Below.refl _ _) | (with_reducible assumption) | (with_reducible exact bel_box _) | (with_reducible refine bel_step ?_ (by with_reducible assumption)) | (with_reducible refine Below.drew ?_) | (with_reducible refine below_drewN ?_ _) | (with_reducible refine bel_alloc ?_ _)))
      rw [fl_snoc] at hown3
      go_roundw
      case rel => exact ⟨k + 1, by omega, by go_num, Lib.hid (by rw [HT.out]; exact hown3), hb3⟩
      case measure => simp [intOf]; omega
    · obtain rfl : k = l.length := by omega
      rw [List.take_length] at hown
      obtain ⟨V, cv, rfl⟩ := own2_form hown.out
      have HR := Lib.hid (own2_rd hown.out (by simp))
      clear hown
      go_wp2
      go_ret
      exact ⟨V, cv, by rw [List.length_map]; rfl, HR.out, hbl⟩
end Go.Proofs.Ytefmnjcllncmpaa
/- Merge of the reference. -/
namespace Go.Proofs.Ytefmnjcllncmpaa
set_option linter.unusedVariables false
set_option linter.unusedSimpArgs false
open Go.RowKit
theorem tog_cons (s : St) (r : List St) : tog (s :: r) = togF s.l.length r := by
  show togF s.l.length (s :: r) = _
  rw [togF, List.foldl_cons, Nat.min_self]; rfl
theorem mergeF_row (x : St) (ls : List St) (t : Nat) : mergeF (rowAt (x :: ls) t) = if thB (x.l.getD t (0, 0)) then (if (x.l.getD t (0, 0)).1 = 1 ∧ 0 ≤ (x.l.getD t (0, 0)).2 ∧ (x.l.getD t (0, 0)).2 < ls.length ∧ thB ((rowAt ls t).getD (x.l.getD t (0, 0)).2.toNat (0, 0)) = true then (rowAt ls t).getD (x.l.getD t (0, 0)).2.toNat (0, 0) else (2, 0)) else (0, 0) := by
  show mergeF (pl (x.l.getD t (0, 0)) :: rowAt ls t) = _
  generalize x.l.getD t (0, 0) = e
  obtain ⟨a, b⟩ := e
  unfold mergeF
  simp only [thB_pl, rowAt_length]
  by_cases h1 : a = 1
  · subst h1
    have : pl (1, b) = (1, b) := rfl
    rw [this]
  · have h2 : (pl (a, b)).1 ≠ 1 := by
      unfold pl
      split
      · exact h1
      · split <;> simp
    simp only [h1, h2, false_and, if_false]
end Go.Proofs.Ytefmnjcllncmpaa
/- The law's examples. -/
namespace Go.Proofs.Ytefmnjcllncmpaa
set_option linter.unusedVariables false
set_option linter.unusedSimpArgs false
open Go.RowKit
def lvW (w : World) : World := ((((((w.alloc (.cells #[.int .i64 1, .int .i64 5, .int .i64 0, .int .i64 0, .int .i64 1, .int .i64 6, .int .i64 1, .int .i64 7] 46)).alloc (.cells #[.int .i64 2, .int .i64 0, .int .i64 0, .int .i64 0, .int .i64 1, .int .i64 5, .int .i64 1, .int .i64 6] 46)).alloc (.cells #[.bool true] 4)).alloc (.cells #[.bool false, .bool true] 4)).alloc (.cells #[.slice (some ⟨w.heap.size + 1 + 1, 0, none⟩) 1 1, .slice (some ⟨w.heap.size + 1 + 1 + 1, 0, none⟩) 2 2] 36)).alloc (.cells #[.int .i64 1, .int .i64 1, .int .i64 0, .int .i64 0, .int .i64 1, .int .i64 0, .int .i64 1, .int .i64 1] 46))
def NewL (l : List (Int × Int)) (n : Nat) (w : World) (e : Ending) (w' : World) : Prop := ∃ A c, e = .returned (.slice A n c) ∧ Hid (RdC w' w'.heap.size A l) ∧ Below w.heap.size w w'
theorem newL {xs l : List (Int × Int)} {n : Nat} {w w' : World} {e : Ending} (h : NewC xs w e w') (hx : xs = l) (hn : l.length = n) : NewL l n w e w' := by
  subst hx; subst hn
  obtain ⟨A, c, e1, h1, h2⟩ := h
  exact ⟨A, c, e1, Lib.hid h1, h2⟩
theorem htoR {w W : World} {A : Option Addr} {xs : List (Int × Int)} (h : Hid (RdC w w.heap.size A xs)) (hb : Below w.heap.size w W) : RdC W W.heap.size A xs := h.out.to hb
theorem rd_new {W : World} {t : TypeId} {cs : Array Value} (l : List Value) (h : cs = l.toArray) : Rd (W.alloc (.cells cs t)) (W.alloc (.cells cs t)).heap.size (some ⟨W.heap.size, 0, none⟩) l := fun _ => ⟨_, rfl, by simp, fun j u hu => by
  subst h
  rw [add_off, cell_of_row _ _ j _ t (0, 0) (heap_alloc_new W _), ← hu]
  simp⟩
theorem is_at (l : List Int) (n : Nat) (hn : l.length = n) (hl : n ≤ 100) (b : Nat) (W : World) (h : Rd W W.heap.size (some ⟨b, 0, none⟩) (is_ l)) : Calls Try.prog 33 #[.slice (some ⟨b, 0, none⟩) n n] W (NewL (l.map fun v => (1, v)) n W) := by
  subst hn
  exact (is_any _ l.length l W h (by omega)).mono fun e w' h => newL h rfl (by simp)
theorem same_at (A B : Option Addr) (c d : Nat) (l : List (Int × Int)) (n : Nat) (hn : l.length = n) (hl : n ≤ 100) (W : World) (hA : RdC W W.heap.size A l) (hB : RdC W W.heap.size B l) : Calls Try.prog 11 #[.slice A n c, .slice B n d] W (Bel (.bool true) W) := by
  subst hn
  exact same_any A B c d l W hA hB (by omega)
theorem lv_facts (w : World) : Below w.heap.size w (lvW w) ∧ RdC (lvW w) (lvW w).heap.size (some ⟨w.heap.size, 0, none⟩) [(1, 5), (0, 0), (1, 6), (1, 7)] ∧ RdC (lvW w) (lvW w).heap.size (some ⟨w.heap.size + 1, 0, none⟩) [(2, 0), (0, 0), (1, 5), (1, 6)] ∧
    Rd (lvW w) (lvW w).heap.size (some ⟨w.heap.size + 1 + 1, 0, none⟩) (bls [true]) ∧ Rd (lvW w) (lvW w).heap.size (some ⟨w.heap.size + 1 + 1 + 1, 0, none⟩) (bls [false, true]) ∧
    Bk (lvW w) (w.heap.size + 1 + 1 + 1 + 1) 36 #[.slice (some ⟨w.heap.size + 1 + 1, 0, none⟩) 1 1, .slice (some ⟨w.heap.size + 1 + 1 + 1, 0, none⟩) 2 2] ∧ RdC (lvW w) (lvW w).heap.size (some ⟨w.heap.size + 1 + 1 + 1 + 1 + 1, 0, none⟩) [(1, 1), (0, 0), (1, 0), (1, 1)] := by
  unfold lvW
  generalize h1 : w.alloc (.cells #[.int .i64 1, .int .i64 5, .int .i64 0, .int .i64 0, .int .i64 1, .int .i64 6, .int .i64 1, .int .i64 7] 46) = w1
  have z1 : w1.heap.size = w.heap.size + 1 := by rw [← h1, World.size_alloc]
  have r1 : Bc w1 w.heap.size [(1, 5), (0, 0), (1, 6), (1, 7)] := by rw [← h1]; exact Bk.new _ _ _
  have b1 : Below w.heap.size w w1 := by rw [← h1]; exact bel_box _
  rw [← z1]
  generalize h2 : w1.alloc (.cells #[.int .i64 2, .int .i64 0, .int .i64 0, .int .i64 0, .int .i64 1, .int .i64 5, .int .i64 1, .int .i64 6] 46) = w2
  have z2 : w2.heap.size = w1.heap.size + 1 := by rw [← h2, World.size_alloc]
  have r2 : Bc w2 w1.heap.size [(2, 0), (0, 0), (1, 5), (1, 6)] := by rw [← h2]; exact Bk.new _ _ _
  have b2 : Below w1.heap.size w1 w2 := by rw [← h2]; exact bel_box _
  rw [← z2]
  generalize h3 : w2.alloc (.cells #[.bool true] 4) = w3
  have z3 : w3.heap.size = w2.heap.size + 1 := by rw [← h3, World.size_alloc]
  have r3 : Rd w3 w3.heap.size (some ⟨w2.heap.size, 0, none⟩) (bls [true]) := by rw [← h3]; exact rd_new _ rfl
  have b3 : Below w2.heap.size w2 w3 := by rw [← h3]; exact bel_box _
  rw [← z3]
  generalize h4 : w3.alloc (.cells #[.bool false, .bool true] 4) = w4
  have z4 : w4.heap.size = w3.heap.size + 1 := by rw [← h4, World.size_alloc]
  have r4 : Rd w4 w4.heap.size (some ⟨w3.heap.size, 0, none⟩) (bls [false, true]) := by rw [← h4]; exact rd_new _ rfl
  have b4 : Below w3.heap.size w3 w4 := by rw [← h4]; exact bel_box _
  rw [← z4]
  generalize h5 : w4.alloc (.cells #[.slice (some ⟨w2.heap.size, 0, none⟩) 1 1, .slice (some ⟨w3.heap.size, 0, none⟩) 2 2] 36) = w5
  have z5 : w5.heap.size = w4.heap.size + 1 := by rw [← h5, World.size_alloc]
  have r5 : Bk w5 w4.heap.size 36 #[.slice (some ⟨w2.heap.size, 0, none⟩) 1 1, .slice (some ⟨w3.heap.size, 0, none⟩) 2 2] := by rw [← h5]; exact Bk.new _ _ _
  have b5 : Below w4.heap.size w4 w5 := by rw [← h5]; exact bel_box _
  rw [← z5]
  generalize h6 : w5.alloc (.cells #[.int .i64 1, .int .i64 1, .int .i64 0, .int .i64 0, .int .i64 1, .int .i64 0, .int .i64 1, .int .i64 1] 46) = w6
  have r6 : Bc w6 w5.heap.size [(1, 1), (0, 0), (1, 0), (1, 1)] := by rw [← h6]; exact Bk.new _ _ _
  have b6 : Below w5.heap.size w5 w6 := by rw [← h6]; exact bel_box _
  have c5 : Below w4.heap.size w4 w6 := bel_step b5 b6
  have c4 : Below w3.heap.size w3 w6 := bel_step b4 c5
  have c3 : Below w2.heap.size w2 w6 := bel_step b3 c4
  have c2 : Below w1.heap.size w1 w6 := bel_step b2 c3
  exact ⟨bel_step b1 c2, r1.rd.to c2, r2.rd.to c3, r3.to c4, r4.to c5, r5.go b6, r6.rd⟩
theorem ex_pre (A : Option Addr) (c : Nat) : outT preS (2, 0) [⟨A, c, [(1, 5), (0, 0), (1, 6), (1, 7)]⟩] (tog [⟨A, c, [(1, 5), (0, 0), (1, 6), (1, 7)]⟩]) = [(2, 0), (0, 0), (1, 5), (1, 6)] := by rfl
theorem ex_word0 : runS (wordS [true] [false, true]) 0 [[(1, 5)], [(0, 0)], [(1, 6)], [(1, 7)]] = [(1, 1), (0, 0), (1, 0), (1, 1)] := by simp [runS, wordS, jnt, thB, bw.ck, bw.att, bw.lt, wrap64]
theorem ex_word (A : Option Addr) (c : Nat) : outT (wordS [true] [false, true]) 0 [⟨A, c, [(1, 5), (0, 0), (1, 6), (1, 7)]⟩] (tog [⟨A, c, [(1, 5), (0, 0), (1, 6), (1, 7)]⟩]) = [(1, 1), (0, 0), (1, 0), (1, 1)] := ex_word0
theorem ex_fby (A B : Option Addr) (c d : Nat) : outT fbyS (0, 0) [⟨A, c, [(1, 0), (1, 0)]⟩, ⟨B, d, [(1, 1), (1, 2)]⟩] (tog [⟨A, c, [(1, 0), (1, 0)]⟩, ⟨B, d, [(1, 1), (1, 2)]⟩]) = [(1, 0), (1, 1)] := by rfl
theorem ex_const : List.replicate (constN 2) ((1, 3) : Int × Int) = [(1, 3), (1, 3)] := by rfl
theorem ex_lift0 : liftF 6 [(1, 1), (1, 3)] = (1, 4) := by decide
theorem ex_lift (A B : Option Addr) (c d : Nat) : (rowsTo [⟨A, c, [(1, 1), (1, 2)]⟩, ⟨B, d, [(1, 3)]⟩] (tog [⟨A, c, [(1, 1), (1, 2)]⟩, ⟨B, d, [(1, 3)]⟩])).map (liftF 6) = [(1, 4)] := congrArg (fun z => [z]) ex_lift0
set_option maxHeartbeats 2000000 in
set_option maxRecDepth 20000 in
theorem lives_any (w : World) : Calls Try.prog 10 #[] w (Bel (.bool true) w) := by
  obtain ⟨hb6, ra, rp, rh, rl, rw_, rword⟩ := lv_facts w
  have HB6 := Lib.hid hb6
  have KPRE : Hid (Calls Try.prog 18 #[.slice (some ⟨w.heap.size, 0, none⟩) 4 4] (lvW w) (NewL [(2, 0), (0, 0), (1, 5), (1, 6)] 4 (lvW w))) := Lib.hid ((pre_any _ 4 [(1, 5), (0, 0), (1, 6), (1, 7)] (lvW w) ra (by simp)).mono fun e w' h => newL h (ex_pre _ _) rfl)
  generalize hW6 : lvW w = W6 at *
  have HW6 := Lib.hid hW6
  have KPR : Hid (Calls Try.prog 18 #[.slice (some ⟨w.heap.size, 0, none⟩) 4 4] (lvW w) (NewL [(2, 0), (0, 0), (1, 5), (1, 6)] 4 W6)) := Lib.hid (by rw [hW6]; exact KPRE.out)
  have RA := Lib.hid ra
  have RP := Lib.hid rp
  have RW := Lib.hid rword
  have RB : Hid (∀ W, Below W6.heap.size W6 W → W.cell? ⟨w.heap.size + 1 + 1 + 1 + 1, 0, none⟩ = some (.slice (some ⟨w.heap.size + 1 + 1, 0, none⟩) 1 1) ∧ W.cell? ⟨w.heap.size + 1 + 1 + 1 + 1, 1, none⟩ = some (.slice (some ⟨w.heap.size + 1 + 1 + 1, 0, none⟩) 2 2)) := Lib.hid fun W hW => ⟨(rw_.go hW).cell 0, (rw_.go hW).cell 1⟩
  have KW : Hid (∀ W, Below W6.heap.size W6 W → Calls Try.prog 26 #[.agg #[.slice (some ⟨w.heap.size + 1 + 1, 0, none⟩) 1 1, .slice (some ⟨w.heap.size + 1 + 1 + 1, 0, none⟩) 2 2], .slice (some ⟨w.heap.size, 0, none⟩) 4 4] W (NewL [(1, 1), (0, 0), (1, 0), (1, 1)] 4 W)) := Lib.hid fun W hW =>
    (word_any (some ⟨w.heap.size + 1 + 1, 0, none⟩) (some ⟨w.heap.size + 1 + 1 + 1, 0, none⟩) (some ⟨w.heap.size, 0, none⟩) 1 2 4 [true] [false, true] [(1, 5), (0, 0), (1, 6), (1, 7)] W (rh.to hW) (rl.to hW) (ra.to hW) (by simp) (by simp) (by simp)).mono fun e w' h => newL h (ex_word _ _) rfl
  have KL : Hid (∀ A c B d b W, RdS W W.heap.size (some ⟨b, 0, none⟩) [⟨A, c, [(1, 1), (1, 2)]⟩, ⟨B, d, [(1, 3)]⟩] → Calls Try.prog 12 #[.int .i64 6, .slice (some ⟨b, 0, none⟩) 2 2] W (NewL [(1, 4)] 1 W)) := Lib.hid fun A c B d b W h =>
    (liftP_any 6 (some ⟨b, 0, none⟩) 2 [⟨A, c, [(1, 1), (1, 2)]⟩, ⟨B, d, [(1, 3)]⟩] W h (by simp) (rl2 _ _ _ (by simp) (by simp))).mono fun e w' h => newL h (ex_lift _ _ _ _) rfl
  have KF : Hid (∀ A c B d W, RdC W W.heap.size A [(1, 0), (1, 0)] → RdC W W.heap.size B [(1, 1), (1, 2)] → Calls Try.prog 22 #[.slice A 2 c, .slice B 2 d] W (NewL [(1, 0), (1, 1)] 2 W)) := Lib.hid fun A c B d W h1 h2 =>
    (fby_any A B c d [(1, 0), (1, 0)] [(1, 1), (1, 2)] W h1 h2 (by simp) (by simp)).mono fun e w' h => newL h (ex_fby _ _ _ _) rfl
  have KC : Hid (∀ W, Calls Try.prog 14 #[.int .i64 3, .int .i64 2] W (NewL [(1, 3), (1, 3)] 2 W)) := Lib.hid fun W => (constP_any 3 2 W).mono fun e w' h => newL h (ex_const) rfl
  have I12 : Hid (∀ b W, Rd W W.heap.size (some ⟨b, 0, none⟩) (is_ [1, 2]) → Calls Try.prog 33 #[.slice (some ⟨b, 0, none⟩) 2 2] W (NewL [(1, 1), (1, 2)] 2 W)) := Lib.hid fun b W h => is_at [1, 2] 2 rfl (by omega) b W h
  have I3 : Hid (∀ b W, Rd W W.heap.size (some ⟨b, 0, none⟩) (is_ [3]) → Calls Try.prog 33 #[.slice (some ⟨b, 0, none⟩) 1 1] W (NewL [(1, 3)] 1 W)) := Lib.hid fun b W h => is_at [3] 1 rfl (by omega) b W h
  have I4 : Hid (∀ b W, Rd W W.heap.size (some ⟨b, 0, none⟩) (is_ [4]) → Calls Try.prog 33 #[.slice (some ⟨b, 0, none⟩) 1 1] W (NewL [(1, 4)] 1 W)) := Lib.hid fun b W h => is_at [4] 1 rfl (by omega) b W h
  have I00 : Hid (∀ b W, Rd W W.heap.size (some ⟨b, 0, none⟩) (is_ [0, 0]) → Calls Try.prog 33 #[.slice (some ⟨b, 0, none⟩) 2 2] W (NewL [(1, 0), (1, 0)] 2 W)) := Lib.hid fun b W h => is_at [0, 0] 2 rfl (by omega) b W h
  have I01 : Hid (∀ b W, Rd W W.heap.size (some ⟨b, 0, none⟩) (is_ [0, 1]) → Calls Try.prog 33 #[.slice (some ⟨b, 0, none⟩) 2 2] W (NewL [(1, 0), (1, 1)] 2 W)) := Lib.hid fun b W h => is_at [0, 1] 2 rfl (by omega) b W h
  have I33 : Hid (∀ b W, Rd W W.heap.size (some ⟨b, 0, none⟩) (is_ [3, 3]) → Calls Try.prog 33 #[.slice (some ⟨b, 0, none⟩) 2 2] W (NewL [(1, 3), (1, 3)] 2 W)) := Lib.hid fun b W h => is_at [3, 3] 2 rfl (by omega) b W h
  have SP : Hid (∀ A B c d W, RdC W W.heap.size A [(2, 0), (0, 0), (1, 5), (1, 6)] → RdC W W.heap.size B [(2, 0), (0, 0), (1, 5), (1, 6)] → Calls Try.prog 11 #[.slice A 4 c, .slice B 4 d] W (Bel (.bool true) W)) := Lib.hid fun A B c d W h1 h2 => same_at A B c d [(2, 0), (0, 0), (1, 5), (1, 6)] 4 rfl (by omega) W h1 h2
  have S4 : Hid (∀ A B c d W, RdC W W.heap.size A [(1, 4)] → RdC W W.heap.size B [(1, 4)] → Calls Try.prog 11 #[.slice A 1 c, .slice B 1 d] W (Bel (.bool true) W)) := Lib.hid fun A B c d W h1 h2 => same_at A B c d [(1, 4)] 1 rfl (by omega) W h1 h2
  have SW : Hid (∀ A B c d W, RdC W W.heap.size A [(1, 1), (0, 0), (1, 0), (1, 1)] → RdC W W.heap.size B [(1, 1), (0, 0), (1, 0), (1, 1)] → Calls Try.prog 11 #[.slice A 4 c, .slice B 4 d] W (Bel (.bool true) W)) := Lib.hid fun A B c d W h1 h2 => same_at A B c d [(1, 1), (0, 0), (1, 0), (1, 1)] 4 rfl (by omega) W h1 h2
  have S01 : Hid (∀ A B c d W, RdC W W.heap.size A [(1, 0), (1, 1)] → RdC W W.heap.size B [(1, 0), (1, 1)] → Calls Try.prog 11 #[.slice A 2 c, .slice B 2 d] W (Bel (.bool true) W)) := Lib.hid fun A B c d W h1 h2 => same_at A B c d [(1, 0), (1, 1)] 2 rfl (by omega) W h1 h2
  have S33 : Hid (∀ A B c d W, RdC W W.heap.size A [(1, 3), (1, 3)] → RdC W W.heap.size B [(1, 3), (1, 3)] → Calls Try.prog 11 #[.slice A 2 c, .slice B 2 d] W (Bel (.bool true) W)) := Lib.hid fun A B c d W h1 h2 => same_at A B c d [(1, 3), (1, 3)] 2 rfl (by omega) W h1 h2
  clear ra rp rh rl rw_ rword hb6 hW6 KPRE
  go_enter Try.func10, Try.ntmps10
  go_wp2_with (first
    | (go_at_call 18; (refine KPR.out.mono ?_); rintro e w1 ⟨A1, c1, rfl, R1, hb1⟩)
    | (go_at_call 11; (with_reducible refine (SP.out _ _ _ _ _ (htoR R1 ?_) (htoR RP ?_)).mono ?_); (focus ((repeat (first | (with_reducible exact Below.refl _ _) | (with_reducible assumption) | (with_reducible exact bel_box _) | (with_reducible refine bel_step ?_ (by with_reducible assumption)) | (with_reducible refine Below.drew ?_) | (with_reducible refine below_drewN ?_ _) | (with_reducible refine bel_alloc ?_ _))); done)); (focus ((repeat (first | (with_reducible exact Below.refl _ _) | (with_reducible assumption) | (with_reducible exact bel_box _) | (with_reducible refine bel_step ?_ (by with_reducible assumption)) | (with_reducible refine Below.drew ?_) | (with_reducible refine below_drewN ?_ _) | (with_reducible refine bel_alloc ?_ _))); done)); rintro e u1 ⟨rfl, hu1⟩)
    | (go_at_call 11; (with_reducible refine (S4.out _ _ _ _ _ (htoR (by assumption) ?_) (htoR (by assumption) ?_)).mono ?_); (focus ((repeat (first | (with_reducible exact Below.refl _ _) | (with_reducible assumption) | (with_reducible exact bel_box _) | (with_reducible refine bel_step ?_ (by with_reducible assumption)) | (with_reducible refine Below.drew ?_) | (with_reducible refine below_drewN ?_ _) | (with_reducible refine bel_alloc ?_ _))); done)); (focus ((repeat (first | (with_reducible exact Below.refl _ _) | (with_reducible assumption) | (with_reducible exact bel_box _) | (with_reducible refine bel_step ?_ (by with_reducible assumption)) | (with_reducible refine Below.drew ?_) | (with_reducible refine below_drewN ?_ _) | (with_reducible refine bel_alloc ?_ _))); done)); rintro e u2 ⟨rfl, hu2⟩; obtain ⟨x0, x1⟩ := RB.out u2 (by repeat (first | (with_reducible exact Below.refl _ _) | (with_reducible assumption) | (with_reducible exact bel_box _) | (with_reducible refine bel_step ?_ (by with_reducible assumption)) | (with_reducible refine Below.drew ?_) | (with_reducible refine below_drewN ?_ _) | (with_reducible refine bel_alloc ?_ _))))
    | (go_at_call 11; (with_reducible refine (SW.out _ _ _ _ _ (htoR (by assumption) ?_) (htoR RW ?_)).mono ?_); (focus ((repeat (first | (with_reducible exact Below.refl _ _) | (with_reducible assumption) | (with_reducible exact bel_box _) | (with_reducible refine bel_step ?_ (by with_reducible assumption)) | (with_reducible refine Below.drew ?_) | (with_reducible refine below_drewN ?_ _) | (with_reducible refine bel_alloc ?_ _))); done)); (focus ((repeat (first | (with_reducible exact Below.refl _ _) | (with_reducible assumption) | (with_reducible exact bel_box _) | (with_reducible refine bel_step ?_ (by with_reducible assumption)) | (with_reducible refine Below.drew ?_) | (with_reducible refine below_drewN ?_ _) | (with_reducible refine bel_alloc ?_ _))); done)); rintro e u3 ⟨rfl, hu3⟩)
    | (go_at_call 11; (with_reducible refine (S01.out _ _ _ _ _ (htoR (by assumption) ?_) (htoR (by assumption) ?_)).mono ?_); (focus ((repeat (first | (with_reducible exact Below.refl _ _) | (with_reducible assumption) | (with_reducible exact bel_box _) | (with_reducible refine bel_step ?_ (by with_reducible assumption)) | (with_reducible refine Below.drew ?_) | (with_reducible refine below_drewN ?_ _) | (with_reducible refine bel_alloc ?_ _))); done)); (focus ((repeat (first | (with_reducible exact Below.refl _ _) | (with_reducible assumption) | (with_reducible exact bel_box _) | (with_reducible refine bel_step ?_ (by with_reducible assumption)) | (with_reducible refine Below.drew ?_) | (with_reducible refine below_drewN ?_ _) | (with_reducible refine bel_alloc ?_ _))); done)); rintro e u4 ⟨rfl, hu4⟩)
    | (go_at_call 11; (with_reducible refine (S33.out _ _ _ _ _ (htoR (by assumption) ?_) (htoR (by assumption) ?_)).mono ?_); (focus ((repeat (first | (with_reducible exact Below.refl _ _) | (with_reducible assumption) | (with_reducible exact bel_box _) | (with_reducible refine bel_step ?_ (by with_reducible assumption)) | (with_reducible refine Below.drew ?_) | (with_reducible refine below_drewN ?_ _) | (with_reducible refine bel_alloc ?_ _))); done)); (focus ((repeat (first | (with_reducible exact Below.refl _ _) | (with_reducible assumption) | (with_reducible exact bel_box _) | (with_reducible refine bel_step ?_ (by with_reducible assumption)) | (with_reducible refine Below.drew ?_) | (with_reducible refine below_drewN ?_ _) | (with_reducible refine bel_alloc ?_ _))); done)); rintro e u5 ⟨rfl, hu5⟩)
    | (go_at_call 33; (with_reducible refine (I12.out _ _ ?_).mono ?_); (focus (exact rd_new (is_ [1, 2]) rfl)); rintro e w2 ⟨A2, c2, rfl, R2, hb2⟩; skip)
    | (go_at_call 33; (with_reducible refine (I3.out _ _ ?_).mono ?_); (focus (exact rd_new (is_ [3]) rfl)); rintro e w3 ⟨A3, c3, rfl, R3, hb3⟩)
    | (go_at_call 33; (with_reducible refine (I4.out _ _ ?_).mono ?_); (focus (exact rd_new (is_ [4]) rfl)); rintro e w4 ⟨A4, c4, rfl, R4, hb4⟩)
    | (go_at_call 33; (with_reducible refine (I00.out _ _ ?_).mono ?_); (focus (exact rd_new (is_ [0, 0]) rfl)); rintro e w5 ⟨A5, c5, rfl, R5, hb5⟩)
    | (go_at_call 33; (with_reducible refine (I01.out _ _ ?_).mono ?_); (focus (exact rd_new (is_ [0, 1]) rfl)); rintro e w6 ⟨A6, c6, rfl, R6, hb6⟩)
    | (go_at_call 33; (with_reducible refine (I33.out _ _ ?_).mono ?_); (focus (exact rd_new (is_ [3, 3]) rfl)); rintro e w7 ⟨A7, c7, rfl, R7, hb7⟩)
    | (go_at_call 12; (with_reducible refine (KL.out A2 c2 A3 c3 _ _ ?_).mono ?_); (focus (exact RdS.new [⟨A2, c2, [(1, 1), (1, 2)]⟩, ⟨A3, c3, [(1, 3)]⟩] _ rfl (rl2 _ _ _ (htoR R2 (by repeat (first | (with_reducible exact Below.refl _ _) | (with_reducible assumption) | (with_reducible exact bel_box _) | (with_reducible refine bel_step ?_ (by with_reducible assumption)) | (with_reducible refine Below.drew ?_) | (with_reducible refine below_drewN ?_ _) | (with_reducible refine bel_alloc ?_ _)))) (htoR R3 (by repeat (first | (with_reducible exact Below.refl _ _) | (with_reducible assumption) | (with_reducible exact bel_box _) | (with_reducible refine bel_step ?_ (by with_reducible assumption)) | (with_reducible refine Below.drew ?_) | (with_reducible refine below_drewN ?_ _) | (with_reducible refine bel_alloc ?_ _))))))); rintro e w8 ⟨A8, c8, rfl, R8, hb8⟩)
    | (go_at_call 26; (with_reducible refine (KW.out _ ?_).mono ?_); (focus ((repeat (first | (with_reducible exact Below.refl _ _) | (with_reducible assumption) | (with_reducible exact bel_box _) | (with_reducible refine bel_step ?_ (by with_reducible assumption)) | (with_reducible refine Below.drew ?_) | (with_reducible refine below_drewN ?_ _) | (with_reducible refine bel_alloc ?_ _))); done)); rintro e w9 ⟨A9, c9, rfl, R9, hb9⟩)
    | (go_at_call 22; (with_reducible refine (KF.out _ _ _ _ _ (htoR (by assumption) ?_) (htoR (by assumption) ?_)).mono ?_); (focus ((repeat (first | (with_reducible exact Below.refl _ _) | (with_reducible assumption) | (with_reducible exact bel_box _) | (with_reducible refine bel_step ?_ (by with_reducible assumption)) | (with_reducible refine Below.drew ?_) | (with_reducible refine below_drewN ?_ _) | (with_reducible refine bel_alloc ?_ _))); done)); (focus ((repeat (first | (with_reducible exact Below.refl _ _) | (with_reducible assumption) | (with_reducible exact bel_box _) | (with_reducible refine bel_step ?_ (by with_reducible assumption)) | (with_reducible refine Below.drew ?_) | (with_reducible refine below_drewN ?_ _) | (with_reducible refine bel_alloc ?_ _))); done)); rintro e w10 ⟨A10, c10, rfl, R10, hb10⟩)
    | (go_at_call 14; (with_reducible refine (KC.out _).mono ?_); rintro e w11 ⟨A11, c11, rfl, R11, hb11⟩))
  go_ret
  have hb6 := HB6.out
  exact ⟨rfl, bel_step hb6 (by repeat (first | (with_reducible exact Below.refl _ _) | (with_reducible assumption) | (with_reducible exact bel_box _) | (with_reducible refine bel_step ?_ (by with_reducible assumption)) | (with_reducible refine Below.drew ?_) | (with_reducible refine below_drewN ?_ _) | (with_reducible refine bel_alloc ?_ _)))⟩
end Go.Proofs.Ytefmnjcllncmpaa
/- long; StreamLifts, StreamDelays. -/
namespace Go.Proofs.Ytefmnjcllncmpaa
set_option linter.unusedVariables false
set_option linter.unusedSimpArgs false
open Go.RowKit
def longB (ls : List St) : Bool := decide (8 < ls.length) || ls.any fun s => decide (300 < s.l.length)
theorem longB_no {ls : List St} (h : longB ls = false) : ls.length ≤ 8 ∧ ∀ s ∈ ls, s.l.length ≤ 300 := by
  unfold longB at h
  rw [Bool.or_eq_false_iff] at h
  refine ⟨by simpa using h.1, fun s hs => ?_⟩
  have := (List.any_eq_false.1 h.2) s hs
  simpa using this
set_option maxHeartbeats 1000000 in
theorem long_any (A : Option Addr) (c : Nat) (ls : List St) (w : World) (hA : RdS w w.heap.size A ls) (hl : ls.length ≤ 9223372036854775807) (h3 : ∀ s ∈ ls, s.l.length ≤ 9223372036854775807) :
    Calls Try.prog 9 #[.slice A ls.length c] w (Bel (.bool (longB ls)) w) := by
  by_cases h8 : 8 < ls.length
  · have hb : longB ls = true := by unfold longB; rw [decide_eq_true h8]; rfl
    rw [hb]
    have g1 : (8 : Int) < (ls.length : Int) := by omega
    go_enter Try.func9, Try.ntmps9
    go_wp2
    go_ret
    exact ⟨rfl, Below.refl _ _⟩
  · have HA := Lib.hid hA
    have H3 := Lib.hid h3
    have g1 : ¬ (8 : Int) < (ls.length : Int) := by omega
    have HB : Hid (longB ls = ls.any fun s => decide (300 < s.l.length)) := Lib.hid (by unfold longB; rw [decide_eq_false h8]; rfl)
    clear hA h3
    go_enter Try.func9, Try.ntmps9
    go_wp2
    go_loopw [3] (fun i wr => ∃ k : Nat, k ≤ ls.length ∧ i = .int .i64 (k : Int) ∧ Hid ((ls.take k).any (fun s => decide (300 < s.l.length)) = false) ∧ Below w.heap.size w wr) (fun i _ => ls.length - (intOf i).toNat)
    case atStart => exact ⟨0, by omega, rfl, Lib.hid rfl, Below.refl _ _⟩
    case round =>
      obtain ⟨k, hk, rfl, hn, hbl⟩ := hrel
      by_cases hlt : k < ls.length
      · obtain ⟨ad, s, rfl, had, hs, hc, _⟩ := (HA.out.to hbl).at_ hlt
        have hm := H3.out s (List.mem_of_getElem? hs)
        have HT : Hid ((ls.take (k + 1)).any (fun s => decide (300 < s.l.length)) = decide (300 < s.l.length)) := Lib.hid (by rw [take_succ_of hs, List.any_append, hn.out]; simp)
        have HY : Hid (300 < s.l.length → longB ls = true) := Lib.hid fun h => by rw [HB.out, List.any_eq_true]; exact ⟨s, List.mem_of_getElem? hs, by simpa using h⟩
        clear hs
        generalize s.l.length = m at *
        by_cases h1 : 300 < m
        · have HZ := Lib.hid (HY.out h1)
          have g2 : (300 : Int) < (m : Int) := by omega
          clear HY HT
          go_wp2
          go_ret
          exact ⟨by rw [HZ.out]; rfl, (by repeat (first | (with_reducible exact Below.refl _ _) | (with_reducible assumption) | (with_reducible exact bel_box _) | (with_reducible refine bel_step ?_ (by with_reducible assumption)) | (with_reducible refine Below.drew ?_) | (with_reducible refine below_drewN ?_ _) | (with_reducible refine bel_alloc ?_ _)))⟩
        · have g2 : ¬ (300 : Int) < (m : Int) := by omega
          clear HY
          go_wp2
          go_roundw
          case rel => exact ⟨k + 1, by omega, by go_num, Lib.hid (by rw [HT.out]; simpa using h1), (by repeat (first | (with_reducible exact Below.refl _ _) | (with_reducible assumption) | (with_reducible exact bel_box _) | (with_reducible refine bel_step ?_ (by with_reducible assumption)) | (with_reducible refine Below.drew ?_) | (with_reducible refine below_drewN ?_ _) | (with_reducible refine bel_alloc ?_ _)))⟩
          case measure => simp [intOf]; omega
      · obtain rfl : k = ls.length := by omega
        have hn' := hn.out
        rw [List.take_length, ← HB.out] at hn'
        have HZ := Lib.hid hn'
        clear hn hn' HB H3
        go_wp2
        go_ret
        exact ⟨by rw [HZ.out]; rfl, hbl⟩
/-- as NewC, with the row hidden and the length told -/
def NewH (xs : List (Int × Int)) (n : Nat) (w : World) (e : Ending) (w' : World) : Prop := ∃ A c, e = .returned (.slice A n c) ∧ Hid (RdC w' w'.heap.size A xs) ∧ Below w.heap.size w w'
theorem newH {xs : List (Int × Int)} {n : Nat} {w w' : World} {e : Ending} (hn : xs.length = n) (h : NewC xs w e w') : NewH xs n w e w' := by
  subst hn
  obtain ⟨A, c, e1, h1, h2⟩ := h
  exact ⟨A, c, e1, Lib.hid h1, h2⟩
theorem map_len (f : List (Int × Int) → Int × Int) (ls : List St) (t : Nat) : ((rowsTo ls t).map f).length = t := by simp [rowsTo]
end Go.Proofs.Ytefmnjcllncmpaa
/- StreamFby. -/
namespace Go.Proofs.Ytefmnjcllncmpaa
set_option linter.unusedVariables false
set_option linter.unusedSimpArgs false
open Go.RowKit
theorem pl_pl (c : Int × Int) : pl (pl c) = pl c := by
  obtain ⟨a, b⟩ := c
  unfold pl
  by_cases h1 : a = 1
  · subst h1; rfl
  · by_cases h2 : a = 2
    · subst h2; rfl
    · simp [h1, h2]
theorem RdC.cut {w : World} {B : Nat} {A : Option Addr} {l : List (Int × Int)} (h : RdC w B A l) (n : Nat) : RdC w B A (l.take n) := fun hn => by
  obtain ⟨ad, e, hb, hc⟩ := h (by rintro rfl; simp at hn)
  refine ⟨ad, e, hb, fun i c hi => hc i c ?_⟩
  rw [List.getElem?_take] at hi
  split at hi
  · exact hi
  · cases hi
theorem cut_at (A : Option Addr) (n c len : Nat) (h1 : n ≤ len) (h2 : len ≤ c) : ∀ W, (Instr.slice 26 (.slice A len c) none (some (.int .i64 (n : Int))) none).run Try.prog W = .ok (.slice A n c) W := fun W => by
  have h : (Instr.slice 26 (.slice A len c) none (some (.int .i64 (n : Int))) none).run Try.prog W = _ := run_slice_h W 26 A len c (by kernel_rfl) .i64 n (by omega) (by omega)
  rw [h]
  have hz : ∀ a : Addr, a.add 0 = a := fun a => add_zero' a
  by_cases hc : c = 0
  · subst hc; simp [go_sem, sliced]
  · cases A <;> simp [go_sem, sliced, hc, hz]
end Go.Proofs.Ytefmnjcllncmpaa
/- Merging samplings. -/
namespace Go.Proofs.Ytefmnjcllncmpaa
set_option linter.unusedVariables false
set_option linter.unusedSimpArgs false
open Go.RowKit
theorem when_get (tag : Int) (u v : St) (n t : Nat) (h : t < n) : ((rowsTo [u, v] n).map (whenF tag))[t]? = some (whenF tag [pl (u.l.getD t (0, 0)), pl (v.l.getD t (0, 0))]) := by
  rw [List.getElem?_map]
  unfold rowsTo
  rw [List.getElem?_map, List.getElem?_range h]
  rfl
theorem merge_at (C A B : Option Addr) (f c d : Nat) (x a : List (Int × Int)) (ls : List St) (n t : Nat) (ht : t < n)
    (hls : ∀ (i : Nat) s, ls[i]? = some s → s.l = (rowsTo [⟨A, c, a⟩, ⟨B, d, x⟩] n).map (whenF (i : Int))) (v : Int) (hx : x.getD t (0, 0) = (1, v)) (h0 : 0 ≤ v) (hv : v < (ls.length : Int)) (hth : thB (a.getD t (0, 0)) = true) :
    ((rowsTo (⟨C, f, x⟩ :: ls) n).map mergeF)[t]? = some (pl (a.getD t (0, 0))) := by
  obtain ⟨i, rfl⟩ : ∃ i : Nat, v = i := ⟨v.toNat, by omega⟩
  have hi : i < ls.length := by omega
  have hs : ls[i]? = some ls[i] := List.getElem?_eq_getElem hi
  have hl := hls i _ hs
  have hg : ((rowAt ls t).getD i (0, 0)) = pl (a.getD t (0, 0)) := by
    have h1 := rowAt_get t hs
    rw [hl] at h1
    have h2 := getD_of (when_get (i : Int) ⟨A, c, a⟩ ⟨B, d, x⟩ n t ht)
    rw [h2] at h1
    rw [getD_of h1]
    simp only
    rw [hx]
    have h3 : whenF (i : Int) [pl (a.getD t (0, 0)), pl (1, (i : Int))] = pl (a.getD t (0, 0)) := by
      unfold whenF
      rw [if_pos (by simp [pl])]
      rfl
    rw [h3, pl_pl]
  rw [List.getElem?_map]
  unfold rowsTo
  rw [List.getElem?_map, List.getElem?_range ht]
  show some (mergeF (rowAt (⟨C, f, x⟩ :: ls) t)) = _
  rw [mergeF_row]
  simp only
  rw [hx]
  rw [if_pos (by rfl), Int.toNat_natCast, hg, if_pos ⟨rfl, h0, hv, by rw [thB_pl]; exact hth⟩]
theorem pl_kind {a : Int × Int} (h : thB a = true) : (pl a).1 = a.1 ∧ (a.1 = 1 → (pl a).2 = a.2) := by
  obtain ⟨k, v⟩ := a
  unfold pl
  by_cases h1 : k = 1
  · subst h1; exact ⟨rfl, fun _ => rfl⟩
  · by_cases h2 : k = 2
    · subst h2; exact ⟨rfl, fun h => absurd (show (2 : Int) = 1 from h) (by decide)⟩
    · simp [thB, h1, h2] at h
end Go.Proofs.Ytefmnjcllncmpaa
/- When of the program, with 'the row is new'; rows of new streams that grow. -/
namespace Go.Proofs.Ytefmnjcllncmpaa
set_option linter.unusedVariables false
set_option linter.unusedSimpArgs false
open Go.RowKit
def NewF (xs : List (Int × Int)) (w : World) (e : Ending) (w' : World) : Prop := ∃ A c, e = .returned (.slice A xs.length c) ∧ RdC w' w'.heap.size A xs ∧ Below w.heap.size w w' ∧ ∀ q : Addr, A = some q → w.heap.size ≤ q.block
def NewG (xs : List (Int × Int)) (n : Nat) (w : World) (e : Ending) (w' : World) : Prop := ∃ A c, e = .returned (.slice A n c) ∧ Hid (RdC w' w'.heap.size A xs) ∧ Below w.heap.size w w' ∧ Hid (∀ q : Addr, A = some q → w.heap.size ≤ q.block)
theorem newG {xs : List (Int × Int)} {n : Nat} {w w' : World} {e : Ending} (hn : xs.length = n) (h : NewF xs w e w') : NewG xs n w e w' := by
  subst hn
  obtain ⟨A, c, e1, h1, h2, h4⟩ := h
  exact ⟨A, c, e1, Lib.hid h1, h2, Lib.hid h4⟩
set_option maxHeartbeats 8000000 in
set_option maxRecDepth 20000 in
theorem combine_new (p0 : Value) (A : Option Addr) (c : Nat) (ls : List St) (s0 : Unit) (stp : Unit → List (Int × Int) → (Unit) × (Int × Int)) (w : World) (hA : RdS w w.heap.size A ls) (hl : ls.length ≤ 100) (h0 : 0 < ls.length) (h3 : ∀ s ∈ ls, s.l.length ≤ 1000000)
    (K : Hid (∀ (s : Unit) (r : List (Int × Int)) (g : Nat) (W : World), r.length = ls.length → RdC W W.heap.size (some ⟨g, 0, none⟩) r → Below w.heap.size w W → Calls Try.prog 61 #[.agg #[], .slice (some ⟨g, 0, none⟩) r.length r.length, p0] W (Bel (.tuple #[.agg #[], cV (stp s r).2]) W))) :
    Calls Try.prog 62 #[.agg #[], .func (.func 61) #[] #[p0], .slice A ls.length c] w (NewF (outT stp s0 ls (tog ls)) w) := by
  obtain ⟨ad0, a, rfl, had0, ha, hc0, _⟩ := hA.at_ (k := 0) (by omega)
  rw [add_zero'] at hc0
  rw [tog_head ha]
  have ha3 := h3 a (List.mem_of_getElem? ha)
  have HA := Lib.hid hA
  have H3 := Lib.hid h3
  have KP := Lib.hid plain_any
  simp only [cV] at K KP
  have g0 : ((ls.length : Int) == 0) = false := beq_eq_false_iff_ne.2 (by omega)
  have hz := add_zero' ad0
  clear hA h3 ha
  go_enter Try.func62, Try.ntmps62
  go_wp2
  go_loopw [7, 24] (fun n i wr => ∃ k : Nat, k ≤ ls.length ∧ i = .int .i64 (k : Int) ∧ n = .int .i64 ((togF a.l.length (ls.take k) : Nat) : Int) ∧ Hid (Bk wr w.heap.size 69 #[]) ∧ Below w.heap.size w wr) (fun _ i _ => ls.length - (intOf i).toNat)
  case atStart => exact ⟨0, by omega, rfl, rfl, Lib.hid (Bk.new _ _ _), (by repeat (first | (with_reducible exact Below.refl _ _) | (with_reducible assumption) | (with_reducible exact bel_box _) | (with_reducible refine bel_step ?_ (by with_reducible assumption)) | (with_reducible refine Below.drew ?_) | (with_reducible refine below_drewN ?_ _) | (with_reducible refine bel_alloc ?_ _)))⟩
  case round =>
    obtain ⟨k, hk, rfl, rfl, hSB, hbl⟩ := hrel
    by_cases hlt : k < ls.length
    · obtain ⟨ad, s, hA, had, hs, hc, _⟩ := (HA.out.to hbl).at_ hlt
      obtain rfl : ad0 = ad := by simpa using hA
      have hm := H3.out s (List.mem_of_getElem? hs)
      have HT := Lib.hid (togF_take (n := a.l.length) hs)
      have hn := (togF_le (ls.take k) a.l.length).1
      clear hs hA K
      generalize togF a.l.length (ls.take k) = n at *
      generalize hsl : s.l.length = m at *
      clear hsl
      go_wp2
      go_roundw
      case rel => exact ⟨k + 1, by omega, by go_num, by rw [HT.out]; exact congrArg _ (by split <;> omega), hSB, (by repeat (first | (with_reducible exact Below.refl _ _) | (with_reducible assumption) | (with_reducible exact bel_box _) | (with_reducible refine bel_step ?_ (by with_reducible assumption)) | (with_reducible refine Below.drew ?_) | (with_reducible refine below_drewN ?_ _) | (with_reducible refine bel_alloc ?_ _)))⟩
      case measure => simp [intOf]; omega
    · obtain rfl : k = ls.length := by omega
      rw [List.take_length]
      have hn := (togF_le ls a.l.length).1
      have HTOG := Lib.hid (togF_le ls a.l.length).2
      generalize togF a.l.length ls = n at *
      have m1 := mk_cells n (by omega) wr
      have m2 := mk_cells ls.length (by omega) (wr.alloc (.cells (fl (List.replicate n (0, 0))).toArray 46))
      clear hc0 hz
      go_wp2
      clear m1 m2
      have hws := Bk.lt hSB.out
      have hB10 : Bc ((wr.alloc (.cells (fl (List.replicate n (0, 0))).toArray 46)).alloc (.cells (fl (List.replicate ls.length (0, 0))).toArray 46)) wr.heap.size (List.replicate n (0, 0)) := (Bk.new wr 46 _).alloc _
      have hB20 : Bc ((wr.alloc (.cells (fl (List.replicate n (0, 0))).toArray 46)).alloc (.cells (fl (List.replicate ls.length (0, 0))).toArray 46)) (wr.heap.size + 1) (List.replicate ls.length (0, 0)) := by
        have h := Bk.new (wr.alloc (.cells (fl (List.replicate n (0, 0))).toArray 46)) 46 (fl (List.replicate ls.length (0, 0))).toArray
        rwa [World.size_alloc] at h
      have hSB0 := (hSB.out.alloc (.cells (fl (List.replicate n (0, 0))).toArray 46)).alloc (.cells (fl (List.replicate ls.length (0, 0))).toArray 46)
      generalize wr.heap.size = G at *
      have hne : ¬ w.heap.size = G := by omega
      have hne2 : ¬ G = w.heap.size := by omega
      have hne3 : ¬ w.heap.size = G + 1 := by omega
      go_loopw [39] (fun i W => ∃ (t : Nat) (cs : List (Int × Int)), t ≤ n ∧ i = .int .i64 (t : Int) ∧ Hid (Bk W w.heap.size 69 #[]) ∧ cs.length = ls.length ∧ Hid (Bc W G (outT stp s0 ls t ++ List.replicate (n - t) (0, 0))) ∧ Hid (Bc W (G + 1) cs) ∧ Below w.heap.size w W) (fun i _ => n - (intOf i).toNat)
      case atStart => exact ⟨0, List.replicate ls.length (0, 0), by omega, rfl, Lib.hid hSB0, by simp, Lib.hid hB10, Lib.hid hB20, (by repeat (first | (with_reducible exact Below.refl _ _) | (with_reducible assumption) | (with_reducible exact bel_box _) | (with_reducible refine bel_step ?_ (by with_reducible assumption)) | (with_reducible refine Below.drew ?_) | (with_reducible refine below_drewN ?_ _) | (with_reducible refine bel_alloc ?_ _)))⟩
      case round =>
        obtain ⟨t, cs, ht, rfl, hST, hcs, hB1, hB2, hbW⟩ := hrel
        by_cases htn : t < n
        · go_wp2
          go_loopw [44] (fun i W => ∃ k : Nat, k ≤ ls.length ∧ i = .int .i64 (k : Int) ∧ Hid (Bk W w.heap.size 69 #[]) ∧ Hid (Bc W G (outT stp s0 ls t ++ List.replicate (n - t) (0, 0))) ∧ Hid (Bc W (G + 1) ((rowAt ls t).take k ++ cs.drop k)) ∧ Below w.heap.size w W) (fun i _ => ls.length - (intOf i).toNat)
          case atStart => exact ⟨0, by omega, rfl, hST, hB1, Lib.hid (by simpa using hB2.out), hbW⟩
          case round =>
            obtain ⟨k, hk, rfl, hSX, hD1, hD2, hbX⟩ := hrel
            by_cases hkl : k < ls.length
            · obtain ⟨ad, s, hA, had, hs, hc, hR⟩ := (HA.out.to hbX).at_ hkl
              obtain rfl : ad0 = ad := by simpa using hA
              have hm := H3.out s (List.mem_of_getElem? hs)
              have htl : t < s.l.length := by have := HTOG.out s (List.mem_of_getElem? hs); omega
              obtain ⟨ad2, e, hA2, hadb2, he, hc1, hc2⟩ := hR.at_ htl
              rw [hA2] at hc
              have hg : s.l.getD t (0, 0) = e := by rw [List.getD, he]; rfl
              have hrow := rowAt_get t hs
              rw [hg] at hrow
              have hmid := mid_get (m := cs) hrow (by rw [rowAt_length, hcs])
              have HSET := Lib.hid (set_mid hrow (show (rowAt ls t).length = cs.length by rw [rowAt_length, hcs]))
              obtain ⟨d, hd⟩ := hmid
              obtain ⟨d0, d1, d2, d3⟩ := hD2.out.cells hd
              have hlt2 := Bk.lt hD2.out
              have hlt1 := Bk.lt hD1.out
              have KE := Lib.hid (KP.out e)
              generalize pl e = pe at *
              generalize s.l.length = m at *
              clear hs hA2 he hg hrow hR hA K hd
              go_wp2_with (go_at_call 66; (with_reducible refine (KE.out _).mono ?_); rintro ev w1 ⟨rfl, hb1⟩; have q0 := (hb1.cell (p := ⟨G + 1, k * 2, none⟩) hlt2).trans d0; have q1 := (hb1.cell (p := ⟨G + 1, k * 2 + 1, none⟩) hlt2).trans d1; have q2 := (hb1.frozen (p := ⟨G + 1, k * 2, none⟩) hlt2).trans d2; have q3 := (hb1.frozen (p := ⟨G + 1, k * 2 + 1, none⟩) hlt2).trans d3)
              go_roundw
              case rel => exact ⟨k + 1, by omega, by go_num, Lib.hid (((hSX.out.below hb1 (Bk.lt hSX.out)).far (p := ⟨G + 1, _, none⟩) (by simpa using hne3) _).far (p := ⟨G + 1, _, none⟩) (by simpa using hne3) _), Lib.hid ((hD1.out.below hb1 hlt1).far2 (by omega) _ _), Lib.hid (by rw [← HSET.out]; exact (hD2.out.below hb1 hlt2).put k pe), bel_two (by repeat (first | (with_reducible exact Below.refl _ _) | (with_reducible assumption) | (with_reducible exact bel_box _) | (with_reducible refine bel_step ?_ (by with_reducible assumption)) | (with_reducible refine Below.drew ?_) | (with_reducible refine below_drewN ?_ _) | (with_reducible refine bel_alloc ?_ _))) (by omega) _ _⟩
              case measure => simp [intOf]; omega
            · obtain rfl : k = ls.length := by omega
              have hD2' := hD2.out
              rw [← rowAt_length ls t, List.take_length, rowAt_length, ← hcs, List.drop_length, List.append_nil] at hD2'
              have HD2 := Lib.hid hD2'
              have KS := Lib.hid (K.out (stT stp s0 ls t) (rowAt ls t) (G + 1))
              have HO := Lib.hid (outT_succ stp s0 ls t)
              have HS := Lib.hid (stT_succ stp s0 ls t)
              rw [rowAt_length] at KS
              generalize stp (stT stp s0 ls t) (rowAt ls t) = q at *
              obtain ⟨qs, q1, q2⟩ := q
              simp only at KS HO HS
              have hget : (outT stp s0 ls t ++ List.replicate (n - t) (0, 0))[t]? = some (0, 0) := by
                rw [List.getElem?_append_right (by rw [outT_length]; omega), outT_length, Nat.sub_self, List.getElem?_replicate, if_pos (by omega)]
              obtain ⟨d0, d1, d2, d3⟩ := hD1.out.cells hget
              have hlt1 := Bk.lt hD1.out
              have hlt2 := Bk.lt hD2.out
              have HSET : Hid ((outT stp s0 ls t ++ List.replicate (n - t) (0, 0)).set t (q1, q2) = outT stp s0 ls (t + 1) ++ List.replicate (n - (t + 1)) (0, 0)) := Lib.hid (by
                rw [HO.out, List.set_append_right _ _ (by rw [outT_length]; omega), outT_length, show n - t = n - (t + 1) + 1 from by omega]
                simp [List.replicate_succ])
              have H31 := Lib.hid (K.out)
              clear hD2 hD2' hget K
              have KX := Lib.hid (KS.out)
              clear KS
              go_wp2_with (go_at_call 61; (with_reducible refine (KX.out _ (by simp [rowAt]) HD2.out.rd hbX).mono ?_); rintro ev w1 ⟨rfl, hb1⟩; have q0 := (hb1.cell (p := ⟨G, t * 2, none⟩) hlt1).trans d0; have q1' := (hb1.cell (p := ⟨G, t * 2 + 1, none⟩) hlt1).trans d1; have q2' := (hb1.frozen (p := ⟨G, t * 2, none⟩) hlt1).trans d2; have q3 := (hb1.frozen (p := ⟨G, t * 2 + 1, none⟩) hlt1).trans d3)
              go_roundw
              case rel => exact ⟨t + 1, rowAt ls t, by omega, by go_num, Lib.hid (((hSX.out.below hb1 (Bk.lt hSX.out)).far (p := ⟨G, _, none⟩) (by simpa using hne) _).far (p := ⟨G, _, none⟩) (by simpa using hne) _), by rw [rowAt_length], Lib.hid (by rw [← HSET.out]; exact (hD1.out.below hb1 hlt1).put t (q1, q2)), Lib.hid ((HD2.out.below hb1 hlt2).far2 (by omega) _ _), bel_two (by repeat (first | (with_reducible exact Below.refl _ _) | (with_reducible assumption) | (with_reducible exact bel_box _) | (with_reducible refine bel_step ?_ (by with_reducible assumption)) | (with_reducible refine Below.drew ?_) | (with_reducible refine below_drewN ?_ _) | (with_reducible refine bel_alloc ?_ _))) (by omega) _ _⟩
              case measure => simp [intOf]; omega
        · obtain rfl : t = n := by omega
          have hB1' := hB1.out
          rw [Nat.sub_self, List.replicate_zero, List.append_nil] at hB1'
          have HR := Lib.hid hB1'.rd
          have HL := Lib.hid (outT_length stp s0 ls t)
          clear hB1 hB2 hB1' K
          go_wp2
          go_ret
          exact ⟨_, _, by rw [HL.out]; rfl, HR.out, hbW, fun q hq => by cases hq; show w.heap.size ≤ G; omega⟩
set_option maxHeartbeats 8000000 in
set_option maxRecDepth 20000 in
theorem each_whenF (p0 : Value) (f : List (Int × Int) → Int × Int) (A : Option Addr) (c : Nat) (ls : List St) (w : World) (hA : RdS w w.heap.size A ls) (hl : ls.length ≤ 100) (h3 : ∀ s ∈ ls, s.l.length ≤ 1000000)
    (K : Hid (∀ (r : List (Int × Int)) (g : Nat) (W : World), r.length = ls.length → RdC W W.heap.size (some ⟨g, 0, none⟩) r → Below w.heap.size w W → Calls Try.prog 60 #[.slice (some ⟨g, 0, none⟩) r.length r.length, p0] W (Bel (cV (f r)) W))) :
    Calls Try.prog 34 #[.func (.func 60) #[] #[p0], .slice A ls.length c] w (NewF ((rowsTo ls (tog ls)).map f) w) := by
  rw [← outE]
  have HA := Lib.hid hA
  have KC : Hid (∀ pb W, Below w.heap.size w W → pb.block < W.heap.size → W.cell? pb = some (.func (.func 60) #[] #[p0]) → Calls Try.prog 62 #[.agg #[], .func (.func 61) #[] #[.pointer (some pb)], .slice A ls.length c] W (NewF (outT (eS f) () ls (tog ls)) W)) :=
    Lib.hid fun pb W hb hpb hc => by
      by_cases h0 : ls.length = 0
      · obtain rfl : ls = [] := List.eq_nil_of_length_eq_zero h0
        go_enter Try.func62, Try.ntmps62
        go_wp2
        go_ret
        exact ⟨none, 0, rfl, fun h => absurd rfl h, (by repeat (first | (with_reducible exact Below.refl _ _) | (with_reducible assumption) | (with_reducible exact bel_box _) | (with_reducible refine bel_step ?_ (by with_reducible assumption)) | (with_reducible refine Below.drew ?_) | (with_reducible refine below_drewN ?_ _) | (with_reducible refine bel_alloc ?_ _))), fun q hq => by cases hq⟩
      · exact combine_new (.pointer (some pb)) A c ls () (eS f) W (hA.to hb) hl (by omega) h3 (Lib.hid fun s r g X hr hR hX =>
          each1_when p0 f r g r.length pb X (Lib.hid fun Y hY => K.out r g Y hr (hR.to hY) ((hb.trans (hX.mono hb.size)).trans (hY.mono (Nat.le_trans hb.size hX.size)))) (Nat.lt_of_lt_of_le hpb hX.size) ((hX.cell hpb).trans hc))
  clear hA K
  go_enter Try.func34, Try.ntmps34
  go_wp2_with (go_at_call 62; (refine (KC.out ⟨w.heap.size, 0, none⟩ _ ?_ ?_ ?_).mono ?_); (focus ((repeat (first | (with_reducible exact Below.refl _ _) | (with_reducible assumption) | (with_reducible exact bel_box _) | (with_reducible refine bel_step ?_ (by with_reducible assumption)) | (with_reducible refine Below.drew ?_) | (with_reducible refine below_drewN ?_ _) | (with_reducible refine bel_alloc ?_ _))); done)); (focus (simp)); (focus (simp [go_sem])); rintro e w2 ⟨A', c', rfl, hR', hb2, hf2⟩)
  go_ret
  exact ⟨A', c', rfl, hR', (by repeat (first | (with_reducible exact Below.refl _ _) | (with_reducible assumption) | (with_reducible exact bel_box _) | (with_reducible refine bel_step ?_ (by with_reducible assumption)) | (with_reducible refine Below.drew ?_) | (with_reducible refine below_drewN ?_ _) | (with_reducible refine bel_alloc ?_ _))), fun q hq => by have := hf2 q hq; simp at this; omega⟩
set_option maxHeartbeats 8000000 in
set_option maxRecDepth 20000 in
theorem whenF_any (A B : Option Addr) (c d : Nat) (l m : List (Int × Int)) (tag : Int) (w : World) (hA : RdC w w.heap.size A l) (hB : RdC w w.heap.size B m) (hl : l.length ≤ 1000000) (hm : m.length ≤ 1000000) :
    Calls Try.prog 30 #[.slice A l.length c, .slice B m.length d, .int .i64 tag] w (NewF ((rowsTo [⟨A, c, l⟩, ⟨B, d, m⟩] (tog [⟨A, c, l⟩, ⟨B, d, m⟩])).map (whenF tag)) w) := by
  have HA := Lib.hid hA
  have HB := Lib.hid hB
  have KC : Hid (∀ p b W, RdS W W.heap.size (some ⟨b, 0, none⟩) [⟨A, c, l⟩, ⟨B, d, m⟩] → p.block < W.heap.size → W.cell? p = some (.int .i64 tag) → Calls Try.prog 34 #[.func (.func 60) #[] #[.pointer (some p)], .slice (some ⟨b, 0, none⟩) 2 2] W (NewF ((rowsTo [⟨A, c, l⟩, ⟨B, d, m⟩] (tog [⟨A, c, l⟩, ⟨B, d, m⟩])).map (whenF tag)) W)) :=
    Lib.hid fun p b W h hp hc => each_whenF (.pointer (some p)) (whenF tag) (some ⟨b, 0, none⟩) 2 [⟨A, c, l⟩, ⟨B, d, m⟩] W h (by simp) (rl2 _ _ _ hl hm) (Lib.hid fun r g X hr hR hX => when1_any tag p r g X hr hR (Nat.lt_of_lt_of_le hp hX.size) ((hX.cell hp).trans hc))
  generalize (rowsTo [⟨A, c, l⟩, ⟨B, d, m⟩] (tog [⟨A, c, l⟩, ⟨B, d, m⟩])).map (whenF tag) = out at *
  clear hA hB
  go_enter Try.func30, Try.ntmps30
  go_wp2_with (go_at_call 34; (refine (KC.out ⟨w.heap.size, 0, none⟩ _ _ ?_ ?_ ?_).mono ?_); (focus (exact when_rds _ _ _ (HA.out.to (by repeat (first | (with_reducible exact Below.refl _ _) | (with_reducible assumption) | (with_reducible exact bel_box _) | (with_reducible refine bel_step ?_ (by with_reducible assumption)) | (with_reducible refine Below.drew ?_) | (with_reducible refine below_drewN ?_ _) | (with_reducible refine bel_alloc ?_ _)))) (HB.out.to (by repeat (first | (with_reducible exact Below.refl _ _) | (with_reducible assumption) | (with_reducible exact bel_box _) | (with_reducible refine bel_step ?_ (by with_reducible assumption)) | (with_reducible refine Below.drew ?_) | (with_reducible refine below_drewN ?_ _) | (with_reducible refine bel_alloc ?_ _)))))); (focus (simp; omega)); (focus (simp [go_sem])); rintro e w2 ⟨A', c', rfl, hR', hb2, hf2⟩)
  go_ret
  exact ⟨A', c', rfl, hR', (by repeat (first | (with_reducible exact Below.refl _ _) | (with_reducible assumption) | (with_reducible exact bel_box _) | (with_reducible refine bel_step ?_ (by with_reducible assumption)) | (with_reducible refine Below.drew ?_) | (with_reducible refine below_drewN ?_ _) | (with_reducible refine bel_alloc ?_ _))), fun q hq => by have := hf2 q hq; simp at this; omega⟩
theorem RdC.grown {w w' : World} {B : Nat} {A : Option Addr} {l : List (Int × Int)} {row : Option Nat} (h : RdC w B A l) (hg : w.grownBy w' row) (hB : B ≤ w'.heap.size) (hne : l ≠ [] → ∀ q : Addr, A = some q → row ≠ some q.block) : RdC w' w'.heap.size A l := fun hn => by
  obtain ⟨ad, e, hb, hc⟩ := h hn
  have hr := hne hn ad e
  refine ⟨ad, e, by omega, fun i c hi => ?_⟩
  obtain ⟨h1, h2⟩ := hc i c hi
  exact ⟨hg.cell h1 (by rw [add_block]; exact fun h => hr h.symm), hg.cell h2 (by rw [add_block]; exact fun h => hr h.symm)⟩
/-- what is known of the streams in a row that grows -/
def LsI (w : World) (v : Value) (WL : Nat → List (Int × Int)) (ls : List St) : Prop := ∀ (j : Nat) s, ls[j]? = some s → s.l = WL j ∧ RdC w w.heap.size s.A s.l ∧ (s.l ≠ [] → ∀ q : Addr, s.A = some q → v.ownBlock ≠ some q.block)
theorem LsI.step {wr w1 W w2 : World} {v v' : Value} {WL : Nat → List (Int × Int)} {ls : List St} {B k size c1 : Nat} {e : TypeId} {xs : List Value} {A1 : Option Addr} {l1 : List (Int × Int)} (h : LsI wr v WL ls) (hown : wr.ownsRow B e size v k xs)
    (hb1 : Below wr.heap.size wr w1) (hk : ls.length = k) (hl1 : l1 = WL k) (R1 : RdC w1 w1.heap.size A1 l1) (hf : ∀ q : Addr, A1 = some q → wr.heap.size ≤ q.block) (hbW : Below w1.heap.size w1 W) (hg : W.grownBy w2 v.ownBlock) (hv : v'.ownBlock = v.ownBlock ∨ v'.ownBlock = some W.heap.size) :
    LsI w2 v' WL (ls ++ [⟨A1, c1, l1⟩]) := by
  have hs1 := hb1.size
  have hs2 := hbW.size
  have hs3 := hg.size
  have hvb : ∀ j, v.ownBlock = some j → j < wr.heap.size := fun j hj => (hown.lt j hj).2
  have fresh : ∀ q : Addr, q.block < W.heap.size → v.ownBlock ≠ some q.block → v'.ownBlock ≠ some q.block := fun q h1 h2 h3 => by
    rcases hv with hv | hv
    · rw [hv] at h3; exact h2 h3
    · rw [hv] at h3
      have := Option.some.inj h3
      omega
  have both : ∀ s : St, RdC W W.heap.size s.A s.l → (s.l ≠ [] → ∀ q : Addr, s.A = some q → v.ownBlock ≠ some q.block) → RdC w2 w2.heap.size s.A s.l ∧ (s.l ≠ [] → ∀ q : Addr, s.A = some q → v'.ownBlock ≠ some q.block) := fun s hRW e3 => by
    refine ⟨hRW.grown hg hs3 e3, fun hz q hq => ?_⟩
    obtain ⟨ad, ea, hb, _⟩ := hRW hz
    rw [hq] at ea
    obtain rfl := Option.some.inj ea
    exact fresh q hb (e3 hz q hq)
  intro j s hj
  rcases Nat.lt_or_ge j ls.length with h1 | h1
  · rw [List.getElem?_append_left h1] at hj
    obtain ⟨e1, e2, e3⟩ := h j s hj
    exact ⟨e1, both s ((e2.to hb1).to hbW) e3⟩
  · rw [List.getElem?_append_right h1] at hj
    obtain ⟨hj0, rfl⟩ : j - ls.length = 0 ∧ (⟨A1, c1, l1⟩ : St) = s := by
      have := (List.getElem?_eq_some_iff.1 hj).1
      simp at this
      have hz : j - ls.length = 0 := by omega
      rw [hz] at hj
      exact ⟨hz, by simpa using hj⟩
    obtain rfl : j = k := by omega
    refine ⟨hl1, both ⟨A1, c1, l1⟩ (R1.to hbW) fun _ q hq h3 => ?_⟩
    have := hf q hq
    have := hvb _ h3
    omega
end Go.Proofs.Ytefmnjcllncmpaa
/- The region of StreamMerge that compares cells: its order of the text is an order. -/
namespace Go.Proofs.Ytefmnjcllncmpaa
set_option linter.unusedVariables false
set_option linter.unusedSimpArgs false
open Go.RowKit
def regOps : List Oper := [{ dst := some 92, op := Op.move (Operand.tmp 12), type := 4, pos := "law.go:139", after := #[], guard := none }, { dst := some 93, op := Op.move (Operand.tmp 92), type := 4, pos := "law.go:139", after := #[{ on := 0, ground := Ground.data }], guard := none }, { dst := some 94, op := Op.move (Operand.tmp 10), type := 26, pos := "law.go:139", after := #[{ on := 1, ground := Ground.guard }], guard := some (1, true) }, { dst := some 95, op := Op.move (Operand.tmp 11), type := 3, pos := "law.go:139", after := #[{ on := 1, ground := Ground.guard }], guard := some (1, true) }, { dst := some 96, op := Op.indexAddr 26 (Operand.tmp 94) (Operand.tmp 95), type := 0, pos := "law.go:139", after := #[{ on := 2, ground := Ground.data }, { on := 3, ground := Ground.data }, { on := 1, ground := Ground.guard }], guard := some (1, true) }, { dst := some 97, op := Op.fieldAddr 46 (Operand.tmp 96) 0, type := 0, pos := "law.go:139", after := #[{ on := 4, ground := Ground.data }, { on := 1, ground := Ground.guard }], guard := some (1, true) }, { dst := some 98, op := Op.load 3 (Operand.tmp 97), type := 3, pos := "law.go:139", after := #[{ on := 5, ground := Ground.data }, { on := 1, ground := Ground.guard }], guard := some (1, true) }, { dst := some 99, op := Op.move (Operand.tmp 0), type := 26, pos := "law.go:139", after := #[{ on := 1, ground := Ground.guard }], guard := some (1, true) }, { dst := some 100, op := Op.move (Operand.tmp 11), type := 3, pos := "law.go:139", after := #[{ on := 1, ground := Ground.guard }], guard := some (1, true) }, { dst := some 101, op := Op.indexAddr 26 (Operand.tmp 99) (Operand.tmp 100), type := 0, pos := "law.go:139", after := #[{ on := 7, ground := Ground.data }, { on := 8, ground := Ground.data }, { on := 1, ground := Ground.guard }], guard := some (1, true) }, { dst := some 102, op := Op.fieldAddr 46 (Operand.tmp 101) 0, type := 0, pos := "law.go:139", after := #[{ on := 9, ground := Ground.data }, { on := 1, ground := Ground.guard }], guard := some (1, true) }, { dst := some 103, op := Op.load 3 (Operand.tmp 102), type := 3, pos := "law.go:139", after := #[{ on := 10, ground := Ground.data }, { on := 1, ground := Ground.guard }], guard := some (1, true) }, { dst := some 104, op := Op.binOp BinOp.neq 3 (Operand.tmp 98) (Operand.tmp 103) 3, type := 4, pos := "law.go:139", after := #[{ on := 6, ground := Ground.data }, { on := 11, ground := Ground.data }, { on := 1, ground := Ground.guard }], guard := some (1, true) }, { dst := some 105, op := Op.move (Operand.tmp 104), type := 4, pos := "law.go:139", after := #[{ on := 12, ground := Ground.data }, { on := 1, ground := Ground.chain }, { on := 1, ground := Ground.guard }], guard := some (1, true) }, { dst := some 106, op := Op.move (Operand.tmp 0), type := 26, pos := "law.go:139", after := #[{ on := 13, ground := Ground.guard }], guard := some (13, false) }, { dst := some 107, op := Op.move (Operand.tmp 11), type := 3, pos := "law.go:139", after := #[{ on := 13, ground := Ground.guard }], guard := some (13, false) }, { dst := some 108, op := Op.indexAddr 26 (Operand.tmp 106) (Operand.tmp 107), type := 0, pos := "law.go:139", after := #[{ on := 14, ground := Ground.data }, { on := 15, ground := Ground.data }, { on := 13, ground := Ground.guard }], guard := some (13, false) }, { dst := some 109, op := Op.fieldAddr 46 (Operand.tmp 108) 0, type := 0, pos := "law.go:139", after := #[{ on := 16, ground := Ground.data }, { on := 13, ground := Ground.guard }], guard := some (13, false) }, { dst := some 110, op := Op.load 3 (Operand.tmp 109), type := 3, pos := "law.go:139", after := #[{ on := 17, ground := Ground.data }, { on := 13, ground := Ground.guard }], guard := some (13, false) }, { dst := some 111, op := Op.binOp BinOp.eql 3 (Operand.tmp 110) (Operand.const (Value.int IntKind.i64 1)) 3, type := 4, pos := "law.go:139", after := #[{ on := 18, ground := Ground.data }, { on := 13, ground := Ground.guard }], guard := some (13, false) }, { dst := some 112, op := Op.move (Operand.tmp 111), type := 4, pos := "law.go:139", after := #[{ on := 19, ground := Ground.data }, { on := 13, ground := Ground.chain }, { on := 13, ground := Ground.guard }], guard := some (13, false) }, { dst := some 113, op := Op.move (Operand.tmp 10), type := 26, pos := "law.go:139", after := #[{ on := 20, ground := Ground.guard }], guard := some (20, true) }, { dst := some 114, op := Op.move (Operand.tmp 11), type := 3, pos := "law.go:139", after := #[{ on := 20, ground := Ground.guard }], guard := some (20, true) }, { dst := some 115, op := Op.indexAddr 26 (Operand.tmp 113) (Operand.tmp 114), type := 0, pos := "law.go:139", after := #[{ on := 21, ground := Ground.data }, { on := 22, ground := Ground.data }, { on := 20, ground := Ground.guard }], guard := some (20, true) }, { dst := some 116, op := Op.fieldAddr 46 (Operand.tmp 115) 1, type := 0, pos := "law.go:139", after := #[{ on := 23, ground := Ground.data }, { on := 20, ground := Ground.guard }], guard := some (20, true) }, { dst := some 117, op := Op.load 3 (Operand.tmp 116), type := 3, pos := "law.go:139", after := #[{ on := 24, ground := Ground.data }, { on := 20, ground := Ground.guard }], guard := some (20, true) }, { dst := some 118, op := Op.move (Operand.tmp 0), type := 26, pos := "law.go:139", after := #[{ on := 20, ground := Ground.guard }], guard := some (20, true) }, { dst := some 119, op := Op.move (Operand.tmp 11), type := 3, pos := "law.go:139", after := #[{ on := 20, ground := Ground.guard }], guard := some (20, true) }, { dst := some 120, op := Op.indexAddr 26 (Operand.tmp 118) (Operand.tmp 119), type := 0, pos := "law.go:139", after := #[{ on := 26, ground := Ground.data }, { on := 27, ground := Ground.data }, { on := 20, ground := Ground.guard }], guard := some (20, true) }, { dst := some 121, op := Op.fieldAddr 46 (Operand.tmp 120) 1, type := 0, pos := "law.go:139", after := #[{ on := 28, ground := Ground.data }, { on := 20, ground := Ground.guard }], guard := some (20, true) }, { dst := some 122, op := Op.load 3 (Operand.tmp 121), type := 3, pos := "law.go:139", after := #[{ on := 29, ground := Ground.data }, { on := 20, ground := Ground.guard }], guard := some (20, true) }, { dst := some 123, op := Op.binOp BinOp.neq 3 (Operand.tmp 117) (Operand.tmp 122) 3, type := 4, pos := "law.go:139", after := #[{ on := 25, ground := Ground.data }, { on := 30, ground := Ground.data }, { on := 20, ground := Ground.guard }], guard := some (20, true) }, { dst := some 124, op := Op.pick (Operand.tmp 112) (Operand.tmp 123) (Operand.const (Value.bool false)), type := 4, pos := "law.go:139", after := #[{ on := 20, ground := Ground.data }, { on := 31, ground := Ground.data }, { on := 13, ground := Ground.guard }], guard := some (13, false) }, { dst := some 125, op := Op.pick (Operand.tmp 105) (Operand.const (Value.bool true)) (Operand.tmp 124), type := 4, pos := "law.go:139", after := #[{ on := 13, ground := Ground.data }, { on := 32, ground := Ground.data }, { on := 1, ground := Ground.guard }], guard := some (1, true) }, { dst := some 126, op := Op.pick (Operand.tmp 93) (Operand.tmp 125) (Operand.const (Value.bool false)), type := 4, pos := "law.go:139", after := #[{ on := 1, ground := Ground.data }, { on := 33, ground := Ground.data }], guard := none }]
theorem lex_step {md : Region.Mode} {ops : Array Oper} {fuel k : Nat} {listed listed' : Array Bool} (hr : (Region.ready md ops listed).contains k = true) (hf : Region.free md ops listed k = true) (hl : listed.setIfInBounds k true = listed') (h : Region.lexFrom md ops fuel (k + 1) listed' = true) : Region.lexFrom md ops (fuel + 1) k listed = true := by
  simp only [Region.lexFrom, Bool.and_eq_true]
  exact ⟨⟨hr, hf⟩, by rw [hl]; exact h⟩
theorem reg_s35 : Region.lexFrom .any regOps.toArray 0 35 #[true, true, true, true, true, true, true, true, true, true, true, true, true, true, true, true, true, true, true, true, true, true, true, true, true, true, true, true, true, true, true, true, true, true, true] = true := by kernel_rfl
theorem reg_s34 : Region.lexFrom .any regOps.toArray 1 34 #[true, true, true, true, true, true, true, true, true, true, true, true, true, true, true, true, true, true, true, true, true, true, true, true, true, true, true, true, true, true, true, true, true, true, false] = true := lex_step (listed' := #[true, true, true, true, true, true, true, true, true, true, true, true, true, true, true, true, true, true, true, true, true, true, true, true, true, true, true, true, true, true, true, true, true, true, true]) (by kernel_rfl) (by kernel_rfl) (by rfl) reg_s35
theorem reg_s33 : Region.lexFrom .any regOps.toArray 2 33 #[true, true, true, true, true, true, true, true, true, true, true, true, true, true, true, true, true, true, true, true, true, true, true, true, true, true, true, true, true, true, true, true, true, false, false] = true := lex_step (listed' := #[true, true, true, true, true, true, true, true, true, true, true, true, true, true, true, true, true, true, true, true, true, true, true, true, true, true, true, true, true, true, true, true, true, true, false]) (by kernel_rfl) (by kernel_rfl) (by rfl) reg_s34
theorem reg_s32 : Region.lexFrom .any regOps.toArray 3 32 #[true, true, true, true, true, true, true, true, true, true, true, true, true, true, true, true, true, true, true, true, true, true, true, true, true, true, true, true, true, true, true, true, false, false, false] = true := lex_step (listed' := #[true, true, true, true, true, true, true, true, true, true, true, true, true, true, true, true, true, true, true, true, true, true, true, true, true, true, true, true, true, true, true, true, true, false, false]) (by kernel_rfl) (by kernel_rfl) (by rfl) reg_s33
theorem reg_s31 : Region.lexFrom .any regOps.toArray 4 31 #[true, true, true, true, true, true, true, true, true, true, true, true, true, true, true, true, true, true, true, true, true, true, true, true, true, true, true, true, true, true, true, false, false, false, false] = true := lex_step (listed' := #[true, true, true, true, true, true, true, true, true, true, true, true, true, true, true, true, true, true, true, true, true, true, true, true, true, true, true, true, true, true, true, true, false, false, false]) (by kernel_rfl) (by kernel_rfl) (by rfl) reg_s32
theorem reg_s30 : Region.lexFrom .any regOps.toArray 5 30 #[true, true, true, true, true, true, true, true, true, true, true, true, true, true, true, true, true, true, true, true, true, true, true, true, true, true, true, true, true, true, false, false, false, false, false] = true := lex_step (listed' := #[true, true, true, true, true, true, true, true, true, true, true, true, true, true, true, true, true, true, true, true, true, true, true, true, true, true, true, true, true, true, true, false, false, false, false]) (by kernel_rfl) (by kernel_rfl) (by rfl) reg_s31
theorem reg_s29 : Region.lexFrom .any regOps.toArray 6 29 #[true, true, true, true, true, true, true, true, true, true, true, true, true, true, true, true, true, true, true, true, true, true, true, true, true, true, true, true, true, false, false, false, false, false, false] = true := lex_step (listed' := #[true, true, true, true, true, true, true, true, true, true, true, true, true, true, true, true, true, true, true, true, true, true, true, true, true, true, true, true, true, true, false, false, false, false, false]) (by kernel_rfl) (by kernel_rfl) (by rfl) reg_s30
theorem reg_s28 : Region.lexFrom .any regOps.toArray 7 28 #[true, true, true, true, true, true, true, true, true, true, true, true, true, true, true, true, true, true, true, true, true, true, true, true, true, true, true, true, false, false, false, false, false, false, false] = true := lex_step (listed' := #[true, true, true, true, true, true, true, true, true, true, true, true, true, true, true, true, true, true, true, true, true, true, true, true, true, true, true, true, true, false, false, false, false, false, false]) (by kernel_rfl) (by kernel_rfl) (by rfl) reg_s29
theorem reg_s27 : Region.lexFrom .any regOps.toArray 8 27 #[true, true, true, true, true, true, true, true, true, true, true, true, true, true, true, true, true, true, true, true, true, true, true, true, true, true, true, false, false, false, false, false, false, false, false] = true := lex_step (listed' := #[true, true, true, true, true, true, true, true, true, true, true, true, true, true, true, true, true, true, true, true, true, true, true, true, true, true, true, true, false, false, false, false, false, false, false]) (by kernel_rfl) (by kernel_rfl) (by rfl) reg_s28
theorem reg_s26 : Region.lexFrom .any regOps.toArray 9 26 #[true, true, true, true, true, true, true, true, true, true, true, true, true, true, true, true, true, true, true, true, true, true, true, true, true, true, false, false, false, false, false, false, false, false, false] = true := lex_step (listed' := #[true, true, true, true, true, true, true, true, true, true, true, true, true, true, true, true, true, true, true, true, true, true, true, true, true, true, true, false, false, false, false, false, false, false, false]) (by kernel_rfl) (by kernel_rfl) (by rfl) reg_s27
theorem reg_s25 : Region.lexFrom .any regOps.toArray 10 25 #[true, true, true, true, true, true, true, true, true, true, true, true, true, true, true, true, true, true, true, true, true, true, true, true, true, false, false, false, false, false, false, false, false, false, false] = true := lex_step (listed' := #[true, true, true, true, true, true, true, true, true, true, true, true, true, true, true, true, true, true, true, true, true, true, true, true, true, true, false, false, false, false, false, false, false, false, false]) (by kernel_rfl) (by kernel_rfl) (by rfl) reg_s26
theorem reg_s24 : Region.lexFrom .any regOps.toArray 11 24 #[true, true, true, true, true, true, true, true, true, true, true, true, true, true, true, true, true, true, true, true, true, true, true, true, false, false, false, false, false, false, false, false, false, false, false] = true := lex_step (listed' := #[true, true, true, true, true, true, true, true, true, true, true, true, true, true, true, true, true, true, true, true, true, true, true, true, true, false, false, false, false, false, false, false, false, false, false]) (by kernel_rfl) (by kernel_rfl) (by rfl) reg_s25
theorem reg_s23 : Region.lexFrom .any regOps.toArray 12 23 #[true, true, true, true, true, true, true, true, true, true, true, true, true, true, true, true, true, true, true, true, true, true, true, false, false, false, false, false, false, false, false, false, false, false, false] = true := lex_step (listed' := #[true, true, true, true, true, true, true, true, true, true, true, true, true, true, true, true, true, true, true, true, true, true, true, true, false, false, false, false, false, false, false, false, false, false, false]) (by kernel_rfl) (by kernel_rfl) (by rfl) reg_s24
theorem reg_s22 : Region.lexFrom .any regOps.toArray 13 22 #[true, true, true, true, true, true, true, true, true, true, true, true, true, true, true, true, true, true, true, true, true, true, false, false, false, false, false, false, false, false, false, false, false, false, false] = true := lex_step (listed' := #[true, true, true, true, true, true, true, true, true, true, true, true, true, true, true, true, true, true, true, true, true, true, true, false, false, false, false, false, false, false, false, false, false, false, false]) (by kernel_rfl) (by kernel_rfl) (by rfl) reg_s23
theorem reg_s21 : Region.lexFrom .any regOps.toArray 14 21 #[true, true, true, true, true, true, true, true, true, true, true, true, true, true, true, true, true, true, true, true, true, false, false, false, false, false, false, false, false, false, false, false, false, false, false] = true := lex_step (listed' := #[true, true, true, true, true, true, true, true, true, true, true, true, true, true, true, true, true, true, true, true, true, true, false, false, false, false, false, false, false, false, false, false, false, false, false]) (by kernel_rfl) (by kernel_rfl) (by rfl) reg_s22
theorem reg_s20 : Region.lexFrom .any regOps.toArray 15 20 #[true, true, true, true, true, true, true, true, true, true, true, true, true, true, true, true, true, true, true, true, false, false, false, false, false, false, false, false, false, false, false, false, false, false, false] = true := lex_step (listed' := #[true, true, true, true, true, true, true, true, true, true, true, true, true, true, true, true, true, true, true, true, true, false, false, false, false, false, false, false, false, false, false, false, false, false, false]) (by kernel_rfl) (by kernel_rfl) (by rfl) reg_s21
theorem reg_s19 : Region.lexFrom .any regOps.toArray 16 19 #[true, true, true, true, true, true, true, true, true, true, true, true, true, true, true, true, true, true, true, false, false, false, false, false, false, false, false, false, false, false, false, false, false, false, false] = true := lex_step (listed' := #[true, true, true, true, true, true, true, true, true, true, true, true, true, true, true, true, true, true, true, true, false, false, false, false, false, false, false, false, false, false, false, false, false, false, false]) (by kernel_rfl) (by kernel_rfl) (by rfl) reg_s20
theorem reg_s18 : Region.lexFrom .any regOps.toArray 17 18 #[true, true, true, true, true, true, true, true, true, true, true, true, true, true, true, true, true, true, false, false, false, false, false, false, false, false, false, false, false, false, false, false, false, false, false] = true := lex_step (listed' := #[true, true, true, true, true, true, true, true, true, true, true, true, true, true, true, true, true, true, true, false, false, false, false, false, false, false, false, false, false, false, false, false, false, false, false]) (by kernel_rfl) (by kernel_rfl) (by rfl) reg_s19
theorem reg_s17 : Region.lexFrom .any regOps.toArray 18 17 #[true, true, true, true, true, true, true, true, true, true, true, true, true, true, true, true, true, false, false, false, false, false, false, false, false, false, false, false, false, false, false, false, false, false, false] = true := lex_step (listed' := #[true, true, true, true, true, true, true, true, true, true, true, true, true, true, true, true, true, true, false, false, false, false, false, false, false, false, false, false, false, false, false, false, false, false, false]) (by kernel_rfl) (by kernel_rfl) (by rfl) reg_s18
theorem reg_s16 : Region.lexFrom .any regOps.toArray 19 16 #[true, true, true, true, true, true, true, true, true, true, true, true, true, true, true, true, false, false, false, false, false, false, false, false, false, false, false, false, false, false, false, false, false, false, false] = true := lex_step (listed' := #[true, true, true, true, true, true, true, true, true, true, true, true, true, true, true, true, true, false, false, false, false, false, false, false, false, false, false, false, false, false, false, false, false, false, false]) (by kernel_rfl) (by kernel_rfl) (by rfl) reg_s17
theorem reg_s15 : Region.lexFrom .any regOps.toArray 20 15 #[true, true, true, true, true, true, true, true, true, true, true, true, true, true, true, false, false, false, false, false, false, false, false, false, false, false, false, false, false, false, false, false, false, false, false] = true := lex_step (listed' := #[true, true, true, true, true, true, true, true, true, true, true, true, true, true, true, true, false, false, false, false, false, false, false, false, false, false, false, false, false, false, false, false, false, false, false]) (by kernel_rfl) (by kernel_rfl) (by rfl) reg_s16
theorem reg_s14 : Region.lexFrom .any regOps.toArray 21 14 #[true, true, true, true, true, true, true, true, true, true, true, true, true, true, false, false, false, false, false, false, false, false, false, false, false, false, false, false, false, false, false, false, false, false, false] = true := lex_step (listed' := #[true, true, true, true, true, true, true, true, true, true, true, true, true, true, true, false, false, false, false, false, false, false, false, false, false, false, false, false, false, false, false, false, false, false, false]) (by kernel_rfl) (by kernel_rfl) (by rfl) reg_s15
theorem reg_s13 : Region.lexFrom .any regOps.toArray 22 13 #[true, true, true, true, true, true, true, true, true, true, true, true, true, false, false, false, false, false, false, false, false, false, false, false, false, false, false, false, false, false, false, false, false, false, false] = true := lex_step (listed' := #[true, true, true, true, true, true, true, true, true, true, true, true, true, true, false, false, false, false, false, false, false, false, false, false, false, false, false, false, false, false, false, false, false, false, false]) (by kernel_rfl) (by kernel_rfl) (by rfl) reg_s14
theorem reg_s12 : Region.lexFrom .any regOps.toArray 23 12 #[true, true, true, true, true, true, true, true, true, true, true, true, false, false, false, false, false, false, false, false, false, false, false, false, false, false, false, false, false, false, false, false, false, false, false] = true := lex_step (listed' := #[true, true, true, true, true, true, true, true, true, true, true, true, true, false, false, false, false, false, false, false, false, false, false, false, false, false, false, false, false, false, false, false, false, false, false]) (by kernel_rfl) (by kernel_rfl) (by rfl) reg_s13
theorem reg_s11 : Region.lexFrom .any regOps.toArray 24 11 #[true, true, true, true, true, true, true, true, true, true, true, false, false, false, false, false, false, false, false, false, false, false, false, false, false, false, false, false, false, false, false, false, false, false, false] = true := lex_step (listed' := #[true, true, true, true, true, true, true, true, true, true, true, true, false, false, false, false, false, false, false, false, false, false, false, false, false, false, false, false, false, false, false, false, false, false, false]) (by kernel_rfl) (by kernel_rfl) (by rfl) reg_s12
theorem reg_s10 : Region.lexFrom .any regOps.toArray 25 10 #[true, true, true, true, true, true, true, true, true, true, false, false, false, false, false, false, false, false, false, false, false, false, false, false, false, false, false, false, false, false, false, false, false, false, false] = true := lex_step (listed' := #[true, true, true, true, true, true, true, true, true, true, true, false, false, false, false, false, false, false, false, false, false, false, false, false, false, false, false, false, false, false, false, false, false, false, false]) (by kernel_rfl) (by kernel_rfl) (by rfl) reg_s11
theorem reg_s9 : Region.lexFrom .any regOps.toArray 26 9 #[true, true, true, true, true, true, true, true, true, false, false, false, false, false, false, false, false, false, false, false, false, false, false, false, false, false, false, false, false, false, false, false, false, false, false] = true := lex_step (listed' := #[true, true, true, true, true, true, true, true, true, true, false, false, false, false, false, false, false, false, false, false, false, false, false, false, false, false, false, false, false, false, false, false, false, false, false]) (by kernel_rfl) (by kernel_rfl) (by rfl) reg_s10
theorem reg_s8 : Region.lexFrom .any regOps.toArray 27 8 #[true, true, true, true, true, true, true, true, false, false, false, false, false, false, false, false, false, false, false, false, false, false, false, false, false, false, false, false, false, false, false, false, false, false, false] = true := lex_step (listed' := #[true, true, true, true, true, true, true, true, true, false, false, false, false, false, false, false, false, false, false, false, false, false, false, false, false, false, false, false, false, false, false, false, false, false, false]) (by kernel_rfl) (by kernel_rfl) (by rfl) reg_s9
theorem reg_s7 : Region.lexFrom .any regOps.toArray 28 7 #[true, true, true, true, true, true, true, false, false, false, false, false, false, false, false, false, false, false, false, false, false, false, false, false, false, false, false, false, false, false, false, false, false, false, false] = true := lex_step (listed' := #[true, true, true, true, true, true, true, true, false, false, false, false, false, false, false, false, false, false, false, false, false, false, false, false, false, false, false, false, false, false, false, false, false, false, false]) (by kernel_rfl) (by kernel_rfl) (by rfl) reg_s8
theorem reg_s6 : Region.lexFrom .any regOps.toArray 29 6 #[true, true, true, true, true, true, false, false, false, false, false, false, false, false, false, false, false, false, false, false, false, false, false, false, false, false, false, false, false, false, false, false, false, false, false] = true := lex_step (listed' := #[true, true, true, true, true, true, true, false, false, false, false, false, false, false, false, false, false, false, false, false, false, false, false, false, false, false, false, false, false, false, false, false, false, false, false]) (by kernel_rfl) (by kernel_rfl) (by rfl) reg_s7
theorem reg_s5 : Region.lexFrom .any regOps.toArray 30 5 #[true, true, true, true, true, false, false, false, false, false, false, false, false, false, false, false, false, false, false, false, false, false, false, false, false, false, false, false, false, false, false, false, false, false, false] = true := lex_step (listed' := #[true, true, true, true, true, true, false, false, false, false, false, false, false, false, false, false, false, false, false, false, false, false, false, false, false, false, false, false, false, false, false, false, false, false, false]) (by kernel_rfl) (by kernel_rfl) (by rfl) reg_s6
theorem reg_s4 : Region.lexFrom .any regOps.toArray 31 4 #[true, true, true, true, false, false, false, false, false, false, false, false, false, false, false, false, false, false, false, false, false, false, false, false, false, false, false, false, false, false, false, false, false, false, false] = true := lex_step (listed' := #[true, true, true, true, true, false, false, false, false, false, false, false, false, false, false, false, false, false, false, false, false, false, false, false, false, false, false, false, false, false, false, false, false, false, false]) (by kernel_rfl) (by kernel_rfl) (by rfl) reg_s5
theorem reg_s3 : Region.lexFrom .any regOps.toArray 32 3 #[true, true, true, false, false, false, false, false, false, false, false, false, false, false, false, false, false, false, false, false, false, false, false, false, false, false, false, false, false, false, false, false, false, false, false] = true := lex_step (listed' := #[true, true, true, true, false, false, false, false, false, false, false, false, false, false, false, false, false, false, false, false, false, false, false, false, false, false, false, false, false, false, false, false, false, false, false]) (by kernel_rfl) (by kernel_rfl) (by rfl) reg_s4
theorem reg_s2 : Region.lexFrom .any regOps.toArray 33 2 #[true, true, false, false, false, false, false, false, false, false, false, false, false, false, false, false, false, false, false, false, false, false, false, false, false, false, false, false, false, false, false, false, false, false, false] = true := lex_step (listed' := #[true, true, true, false, false, false, false, false, false, false, false, false, false, false, false, false, false, false, false, false, false, false, false, false, false, false, false, false, false, false, false, false, false, false, false]) (by kernel_rfl) (by kernel_rfl) (by rfl) reg_s3
theorem reg_s1 : Region.lexFrom .any regOps.toArray 34 1 #[true, false, false, false, false, false, false, false, false, false, false, false, false, false, false, false, false, false, false, false, false, false, false, false, false, false, false, false, false, false, false, false, false, false, false] = true := lex_step (listed' := #[true, true, false, false, false, false, false, false, false, false, false, false, false, false, false, false, false, false, false, false, false, false, false, false, false, false, false, false, false, false, false, false, false, false, false]) (by kernel_rfl) (by kernel_rfl) (by rfl) reg_s2
theorem reg_s0 : Region.lexFrom .any regOps.toArray 35 0 #[false, false, false, false, false, false, false, false, false, false, false, false, false, false, false, false, false, false, false, false, false, false, false, false, false, false, false, false, false, false, false, false, false, false, false] = true := lex_step (listed' := #[true, false, false, false, false, false, false, false, false, false, false, false, false, false, false, false, false, false, false, false, false, false, false, false, false, false, false, false, false, false, false, false, false, false, false]) (by kernel_rfl) (by kernel_rfl) (by rfl) reg_s1
theorem reg_lex : Region.lexB .any regOps.toArray = true := by
  unfold Region.lexB
  rw [Bool.and_eq_true]
  exact ⟨by kernel_rfl, reg_s0⟩
/-- the walk of a region that only reads, behind a name that no tactic lays open -/
structure WQ (P : Program) (ops : Array Oper) (C : World → Prop) (Q : Act → Prop) (l : List Oper) (a : Act) : Prop where
  h : wpQuiet P ops C Q l a
theorem wqStep {P : Program} {ops : Array Oper} {C : World → Prop} {Q : Act → Prop} {a : Act} {o : Oper} {rest : List Oper}
    (h : ∀ K : Act → Prop, (∀ a, WQ P ops C Q rest a → K a) → if Region.wanted o (yielded ops a.tmps) then o.quiet P a C K else K (a.put o.dst undef)) : WQ P ops C Q (o :: rest) a :=
  ⟨wpQuiet_step fun K hK => h K fun a ha => hK a ha.h⟩
theorem wqNil {P : Program} {ops : Array Oper} {C : World → Prop} {Q : Act → Prop} {a : Act} (h : Q a) : WQ P ops C Q [] a := ⟨wpQuiet_nil h⟩
theorem wp_region_wq {P : Program} {id : Nat} {Q : Exit → Act → World → Prop} {a : Act} {w : World} {l : List Oper} (hm : P.follows .mixedOrders = true) (hB : Region.lexB .any l.toArray = true)
    (h : WQ P l.toArray (fun w' => ∃ n, w' = w.drewN n) (fun a' => ∀ w', (∃ n, w' = w.drewN n) → Q .normal a' w') l a) : (Code.region id l.toArray true).wp P Q a w :=
  wp_region_quiet_lit hm hB h.h
end Go.Proofs.Ytefmnjcllncmpaa
