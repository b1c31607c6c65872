/- Texts of one chain, in one file. -/
import Derived.ProofKit
import Derived.OpenShut
import Derived.Deep.Slices
import Derived.Lib.SmallJoins
import Derived.SizedLaws
import Derived.Deep.SlicePairs
import Derived.ChangeSlices
import Derived.ChangeSame
import Derived.Test.YtefmnjcllncmpaaQC
/- The law's examples. -/
namespace Go.Proofs.Ytefmnjcllncmpaa
set_option linter.unusedVariables false
set_option linter.unusedSimpArgs false
open Go.RowKit
def lvW (w : World) : World := ((((((w.alloc (.cells #[.int .i64 1, .int .i64 5, .int .i64 0, .int .i64 0, .int .i64 1, .int .i64 6, .int .i64 1, .int .i64 7] 46)).alloc (.cells #[.int .i64 2, .int .i64 0, .int .i64 0, .int .i64 0, .int .i64 1, .int .i64 5, .int .i64 1, .int .i64 6] 46)).alloc (.cells #[.bool true] 4)).alloc (.cells #[.bool false, .bool true] 4)).alloc (.cells #[.slice (some ⟨w.heap.size + 1 + 1, 0, none⟩) 1 1, .slice (some ⟨w.heap.size + 1 + 1 + 1, 0, none⟩) 2 2] 36)).alloc (.cells #[.int .i64 1, .int .i64 1, .int .i64 0, .int .i64 0, .int .i64 1, .int .i64 0, .int .i64 1, .int .i64 1] 46))
def NewL (l : List (Int × Int)) (n : Nat) (w : World) (e : Ending) (w' : World) : Prop := ∃ A c, e = .returned (.slice A n c) ∧ Hid (RdC w' w'.heap.size A l) ∧ Below w.heap.size w w'
theorem newL {xs l : List (Int × Int)} {n : Nat} {w w' : World} {e : Ending} (h : NewC xs w e w') (hx : xs = l) (hn : l.length = n) : NewL l n w e w' := by
  subst hx; subst hn
  obtain ⟨A, c, e1, h1, h2⟩ := h
  exact ⟨A, c, e1, Lib.hid h1, h2⟩
theorem htoR {w W : World} {A : Option Addr} {xs : List (Int × Int)} (h : Hid (RdC w w.heap.size A xs)) (hb : Below w.heap.size w W) : RdC W W.heap.size A xs := h.out.to hb
theorem rd_new {W : World} {t : TypeId} {cs : Array Value} (l : List Value) (h : cs = l.toArray) : Rd (W.alloc (.cells cs t)) (W.alloc (.cells cs t)).heap.size (some ⟨W.heap.size, 0, none⟩) l := fun _ => ⟨_, rfl, by simp, fun j u hu => by
  subst h
  rw [add_off, cell_of_row _ _ j _ t (0, 0) (heap_alloc_new W _), ← hu]
  simp⟩
theorem is_at (l : List Int) (n : Nat) (hn : l.length = n) (hl : n ≤ 100) (b : Nat) (W : World) (h : Rd W W.heap.size (some ⟨b, 0, none⟩) (is_ l)) : Calls Try.prog 33 #[.slice (some ⟨b, 0, none⟩) n n] W (NewL (l.map fun v => (1, v)) n W) := by
  subst hn
  exact (is_any _ l.length l W h (by omega)).mono fun e w' h => newL h rfl (by simp)
theorem same_at (A B : Option Addr) (c d : Nat) (l : List (Int × Int)) (n : Nat) (hn : l.length = n) (hl : n ≤ 100) (W : World) (hA : RdC W W.heap.size A l) (hB : RdC W W.heap.size B l) : Calls Try.prog 11 #[.slice A n c, .slice B n d] W (Bel (.bool true) W) := by
  subst hn
  exact same_any A B c d l W hA hB (by omega)
theorem lv_facts (w : World) : Below w.heap.size w (lvW w) ∧ RdC (lvW w) (lvW w).heap.size (some ⟨w.heap.size, 0, none⟩) [(1, 5), (0, 0), (1, 6), (1, 7)] ∧ RdC (lvW w) (lvW w).heap.size (some ⟨w.heap.size + 1, 0, none⟩) [(2, 0), (0, 0), (1, 5), (1, 6)] ∧
    Rd (lvW w) (lvW w).heap.size (some ⟨w.heap.size + 1 + 1, 0, none⟩) (bls [true]) ∧ Rd (lvW w) (lvW w).heap.size (some ⟨w.heap.size + 1 + 1 + 1, 0, none⟩) (bls [false, true]) ∧
    Bk (lvW w) (w.heap.size + 1 + 1 + 1 + 1) 36 #[.slice (some ⟨w.heap.size + 1 + 1, 0, none⟩) 1 1, .slice (some ⟨w.heap.size + 1 + 1 + 1, 0, none⟩) 2 2] ∧ RdC (lvW w) (lvW w).heap.size (some ⟨w.heap.size + 1 + 1 + 1 + 1 + 1, 0, none⟩) [(1, 1), (0, 0), (1, 0), (1, 1)] := by
  unfold lvW
  generalize h1 : w.alloc (.cells #[.int .i64 1, .int .i64 5, .int .i64 0, .int .i64 0, .int .i64 1, .int .i64 6, .int .i64 1, .int .i64 7] 46) = w1
  have z1 : w1.heap.size = w.heap.size + 1 := by rw [← h1, World.size_alloc]
  have r1 : Bc w1 w.heap.size [(1, 5), (0, 0), (1, 6), (1, 7)] := by rw [← h1]; exact Bk.new _ _ _
  have b1 : Below w.heap.size w w1 := by rw [← h1]; exact bel_box _
  rw [← z1]
  generalize h2 : w1.alloc (.cells #[.int .i64 2, .int .i64 0, .int .i64 0, .int .i64 0, .int .i64 1, .int .i64 5, .int .i64 1, .int .i64 6] 46) = w2
  have z2 : w2.heap.size = w1.heap.size + 1 := by rw [← h2, World.size_alloc]
  have r2 : Bc w2 w1.heap.size [(2, 0), (0, 0), (1, 5), (1, 6)] := by rw [← h2]; exact Bk.new _ _ _
  have b2 : Below w1.heap.size w1 w2 := by rw [← h2]; exact bel_box _
  rw [← z2]
  generalize h3 : w2.alloc (.cells #[.bool true] 4) = w3
  have z3 : w3.heap.size = w2.heap.size + 1 := by rw [← h3, World.size_alloc]
  have r3 : Rd w3 w3.heap.size (some ⟨w2.heap.size, 0, none⟩) (bls [true]) := by rw [← h3]; exact rd_new _ rfl
  have b3 : Below w2.heap.size w2 w3 := by rw [← h3]; exact bel_box _
  rw [← z3]
  generalize h4 : w3.alloc (.cells #[.bool false, .bool true] 4) = w4
  have z4 : w4.heap.size = w3.heap.size + 1 := by rw [← h4, World.size_alloc]
  have r4 : Rd w4 w4.heap.size (some ⟨w3.heap.size, 0, none⟩) (bls [false, true]) := by rw [← h4]; exact rd_new _ rfl
  have b4 : Below w3.heap.size w3 w4 := by rw [← h4]; exact bel_box _
  rw [← z4]
  generalize h5 : w4.alloc (.cells #[.slice (some ⟨w2.heap.size, 0, none⟩) 1 1, .slice (some ⟨w3.heap.size, 0, none⟩) 2 2] 36) = w5
  have z5 : w5.heap.size = w4.heap.size + 1 := by rw [← h5, World.size_alloc]
  have r5 : Bk w5 w4.heap.size 36 #[.slice (some ⟨w2.heap.size, 0, none⟩) 1 1, .slice (some ⟨w3.heap.size, 0, none⟩) 2 2] := by rw [← h5]; exact Bk.new _ _ _
  have b5 : Below w4.heap.size w4 w5 := by rw [← h5]; exact bel_box _
  rw [← z5]
  generalize h6 : w5.alloc (.cells #[.int .i64 1, .int .i64 1, .int .i64 0, .int .i64 0, .int .i64 1, .int .i64 0, .int .i64 1, .int .i64 1] 46) = w6
  have r6 : Bc w6 w5.heap.size [(1, 1), (0, 0), (1, 0), (1, 1)] := by rw [← h6]; exact Bk.new _ _ _
  have b6 : Below w5.heap.size w5 w6 := by rw [← h6]; exact bel_box _
  have c5 : Below w4.heap.size w4 w6 := bel_step b5 b6
  have c4 : Below w3.heap.size w3 w6 := bel_step b4 c5
  have c3 : Below w2.heap.size w2 w6 := bel_step b3 c4
  have c2 : Below w1.heap.size w1 w6 := bel_step b2 c3
  exact ⟨bel_step b1 c2, r1.rd.to c2, r2.rd.to c3, r3.to c4, r4.to c5, r5.go b6, r6.rd⟩
theorem ex_pre (A : Option Addr) (c : Nat) : outT preS (2, 0) [⟨A, c, [(1, 5), (0, 0), (1, 6), (1, 7)]⟩] (tog [⟨A, c, [(1, 5), (0, 0), (1, 6), (1, 7)]⟩]) = [(2, 0), (0, 0), (1, 5), (1, 6)] := by rfl
theorem ex_word0 : runS (wordS [true] [false, true]) 0 [[(1, 5)], [(0, 0)], [(1, 6)], [(1, 7)]] = [(1, 1), (0, 0), (1, 0), (1, 1)] := by simp [runS, wordS, jnt, thB, bw.ck, bw.att, bw.lt, wrap64]
theorem ex_word (A : Option Addr) (c : Nat) : outT (wordS [true] [false, true]) 0 [⟨A, c, [(1, 5), (0, 0), (1, 6), (1, 7)]⟩] (tog [⟨A, c, [(1, 5), (0, 0), (1, 6), (1, 7)]⟩]) = [(1, 1), (0, 0), (1, 0), (1, 1)] := ex_word0
theorem ex_fby (A B : Option Addr) (c d : Nat) : outT fbyS (0, 0) [⟨A, c, [(1, 0), (1, 0)]⟩, ⟨B, d, [(1, 1), (1, 2)]⟩] (tog [⟨A, c, [(1, 0), (1, 0)]⟩, ⟨B, d, [(1, 1), (1, 2)]⟩]) = [(1, 0), (1, 1)] := by rfl
theorem ex_const : List.replicate (constN 2) ((1, 3) : Int × Int) = [(1, 3), (1, 3)] := by rfl
theorem ex_lift0 : liftF 6 [(1, 1), (1, 3)] = (1, 4) := by decide
theorem ex_lift (A B : Option Addr) (c d : Nat) : (rowsTo [⟨A, c, [(1, 1), (1, 2)]⟩, ⟨B, d, [(1, 3)]⟩] (tog [⟨A, c, [(1, 1), (1, 2)]⟩, ⟨B, d, [(1, 3)]⟩])).map (liftF 6) = [(1, 4)] := congrArg (fun z => [z]) ex_lift0
set_option maxHeartbeats 2000000 in
set_option maxRecDepth 20000 in
theorem lives_any (w : World) : Calls Try.prog 10 #[] w (Bel (.bool true) w) := by
  obtain ⟨hb6, ra, rp, rh, rl, rw_, rword⟩ := lv_facts w
  have HB6 := Lib.hid hb6
  have KPRE : Hid (Calls Try.prog 18 #[.slice (some ⟨w.heap.size, 0, none⟩) 4 4] (lvW w) (NewL [(2, 0), (0, 0), (1, 5), (1, 6)] 4 (lvW w))) := Lib.hid ((pre_any _ 4 [(1, 5), (0, 0), (1, 6), (1, 7)] (lvW w) ra (by simp)).mono fun e w' h => newL h (ex_pre _ _) rfl)
  generalize hW6 : lvW w = W6 at *
  have HW6 := Lib.hid hW6
  have KPR : Hid (Calls Try.prog 18 #[.slice (some ⟨w.heap.size, 0, none⟩) 4 4] (lvW w) (NewL [(2, 0), (0, 0), (1, 5), (1, 6)] 4 W6)) := Lib.hid (by rw [hW6]; exact KPRE.out)
  have RA := Lib.hid ra
  have RP := Lib.hid rp
  have RW := Lib.hid rword
  have RB : Hid (∀ W, Below W6.heap.size W6 W → W.cell? ⟨w.heap.size + 1 + 1 + 1 + 1, 0, none⟩ = some (.slice (some ⟨w.heap.size + 1 + 1, 0, none⟩) 1 1) ∧ W.cell? ⟨w.heap.size + 1 + 1 + 1 + 1, 1, none⟩ = some (.slice (some ⟨w.heap.size + 1 + 1 + 1, 0, none⟩) 2 2)) := Lib.hid fun W hW => ⟨(rw_.go hW).cell 0, (rw_.go hW).cell 1⟩
  have KW : Hid (∀ W, Below W6.heap.size W6 W → Calls Try.prog 26 #[.agg #[.slice (some ⟨w.heap.size + 1 + 1, 0, none⟩) 1 1, .slice (some ⟨w.heap.size + 1 + 1 + 1, 0, none⟩) 2 2], .slice (some ⟨w.heap.size, 0, none⟩) 4 4] W (NewL [(1, 1), (0, 0), (1, 0), (1, 1)] 4 W)) := Lib.hid fun W hW =>
    (word_any (some ⟨w.heap.size + 1 + 1, 0, none⟩) (some ⟨w.heap.size + 1 + 1 + 1, 0, none⟩) (some ⟨w.heap.size, 0, none⟩) 1 2 4 [true] [false, true] [(1, 5), (0, 0), (1, 6), (1, 7)] W (rh.to hW) (rl.to hW) (ra.to hW) (by simp) (by simp) (by simp)).mono fun e w' h => newL h (ex_word _ _) rfl
  have KL : Hid (∀ A c B d b W, RdS W W.heap.size (some ⟨b, 0, none⟩) [⟨A, c, [(1, 1), (1, 2)]⟩, ⟨B, d, [(1, 3)]⟩] → Calls Try.prog 12 #[.int .i64 6, .slice (some ⟨b, 0, none⟩) 2 2] W (NewL [(1, 4)] 1 W)) := Lib.hid fun A c B d b W h =>
    (liftP_any 6 (some ⟨b, 0, none⟩) 2 [⟨A, c, [(1, 1), (1, 2)]⟩, ⟨B, d, [(1, 3)]⟩] W h (by simp) (rl2 _ _ _ (by simp) (by simp))).mono fun e w' h => newL h (ex_lift _ _ _ _) rfl
  have KF : Hid (∀ A c B d W, RdC W W.heap.size A [(1, 0), (1, 0)] → RdC W W.heap.size B [(1, 1), (1, 2)] → Calls Try.prog 22 #[.slice A 2 c, .slice B 2 d] W (NewL [(1, 0), (1, 1)] 2 W)) := Lib.hid fun A c B d W h1 h2 =>
    (fby_any A B c d [(1, 0), (1, 0)] [(1, 1), (1, 2)] W h1 h2 (by simp) (by simp)).mono fun e w' h => newL h (ex_fby _ _ _ _) rfl
  have KC : Hid (∀ W, Calls Try.prog 14 #[.int .i64 3, .int .i64 2] W (NewL [(1, 3), (1, 3)] 2 W)) := Lib.hid fun W => (constP_any 3 2 W).mono fun e w' h => newL h (ex_const) rfl
  have I12 : Hid (∀ b W, Rd W W.heap.size (some ⟨b, 0, none⟩) (is_ [1, 2]) → Calls Try.prog 33 #[.slice (some ⟨b, 0, none⟩) 2 2] W (NewL [(1, 1), (1, 2)] 2 W)) := Lib.hid fun b W h => is_at [1, 2] 2 rfl (by omega) b W h
  have I3 : Hid (∀ b W, Rd W W.heap.size (some ⟨b, 0, none⟩) (is_ [3]) → Calls Try.prog 33 #[.slice (some ⟨b, 0, none⟩) 1 1] W (NewL [(1, 3)] 1 W)) := Lib.hid fun b W h => is_at [3] 1 rfl (by omega) b W h
  have I4 : Hid (∀ b W, Rd W W.heap.size (some ⟨b, 0, none⟩) (is_ [4]) → Calls Try.prog 33 #[.slice (some ⟨b, 0, none⟩) 1 1] W (NewL [(1, 4)] 1 W)) := Lib.hid fun b W h => is_at [4] 1 rfl (by omega) b W h
  have I00 : Hid (∀ b W, Rd W W.heap.size (some ⟨b, 0, none⟩) (is_ [0, 0]) → Calls Try.prog 33 #[.slice (some ⟨b, 0, none⟩) 2 2] W (NewL [(1, 0), (1, 0)] 2 W)) := Lib.hid fun b W h => is_at [0, 0] 2 rfl (by omega) b W h
  have I01 : Hid (∀ b W, Rd W W.heap.size (some ⟨b, 0, none⟩) (is_ [0, 1]) → Calls Try.prog 33 #[.slice (some ⟨b, 0, none⟩) 2 2] W (NewL [(1, 0), (1, 1)] 2 W)) := Lib.hid fun b W h => is_at [0, 1] 2 rfl (by omega) b W h
  have I33 : Hid (∀ b W, Rd W W.heap.size (some ⟨b, 0, none⟩) (is_ [3, 3]) → Calls Try.prog 33 #[.slice (some ⟨b, 0, none⟩) 2 2] W (NewL [(1, 3), (1, 3)] 2 W)) := Lib.hid fun b W h => is_at [3, 3] 2 rfl (by omega) b W h
  have SP : Hid (∀ A B c d W, RdC W W.heap.size A [(2, 0), (0, 0), (1, 5), (1, 6)] → RdC W W.heap.size B [(2, 0), (0, 0), (1, 5), (1, 6)] → Calls Try.prog 11 #[.slice A 4 c, .slice B 4 d] W (Bel (.bool true) W)) := Lib.hid fun A B c d W h1 h2 => same_at A B c d [(2, 0), (0, 0), (1, 5), (1, 6)] 4 rfl (by omega) W h1 h2
  have S4 : Hid (∀ A B c d W, RdC W W.heap.size A [(1, 4)] → RdC W W.heap.size B [(1, 4)] → Calls Try.prog 11 #[.slice A 1 c, .slice B 1 d] W (Bel (.bool true) W)) := Lib.hid fun A B c d W h1 h2 => same_at A B c d [(1, 4)] 1 rfl (by omega) W h1 h2
  have SW : Hid (∀ A B c d W, RdC W W.heap.size A [(1, 1), (0, 0), (1, 0), (1, 1)] → RdC W W.heap.size B [(1, 1), (0, 0), (1, 0), (1, 1)] → Calls Try.prog 11 #[.slice A 4 c, .slice B 4 d] W (Bel (.bool true) W)) := Lib.hid fun A B c d W h1 h2 => same_at A B c d [(1, 1), (0, 0), (1, 0), (1, 1)] 4 rfl (by omega) W h1 h2
  have S01 : Hid (∀ A B c d W, RdC W W.heap.size A [(1, 0), (1, 1)] → RdC W W.heap.size B [(1, 0), (1, 1)] → Calls Try.prog 11 #[.slice A 2 c, .slice B 2 d] W (Bel (.bool true) W)) := Lib.hid fun A B c d W h1 h2 => same_at A B c d [(1, 0), (1, 1)] 2 rfl (by omega) W h1 h2
  have S33 : Hid (∀ A B c d W, RdC W W.heap.size A [(1, 3), (1, 3)] → RdC W W.heap.size B [(1, 3), (1, 3)] → Calls Try.prog 11 #[.slice A 2 c, .slice B 2 d] W (Bel (.bool true) W)) := Lib.hid fun A B c d W h1 h2 => same_at A B c d [(1, 3), (1, 3)] 2 rfl (by omega) W h1 h2
  clear ra rp rh rl rw_ rword hb6 hW6 KPRE
  go_enter Try.func10, Try.ntmps10
  go_wp2_with (first
    | (go_at_call 18; (refine KPR.out.mono ?_); rintro e w1 ⟨A1, c1, rfl, R1, hb1⟩)
    | (go_at_call 11; (with_reducible refine (SP.out _ _ _ _ _ (htoR R1 ?_) (htoR RP ?_)).mono ?_); (focus ((repeat (first | (with_reducible exact Below.refl _ _) | (with_reducible assumption) | (with_reducible exact bel_box _) | (with_reducible refine bel_step ?_ (by with_reducible assumption)) | (with_reducible refine Below.drew ?_) | (with_reducible refine below_drewN ?_ _) | (with_reducible refine bel_alloc ?_ _))); done)); (focus ((repeat (first | (with_reducible exact Below.refl _ _) | (with_reducible assumption) | (with_reducible exact bel_box _) | (with_reducible refine bel_step ?_ (by with_reducible assumption)) | (with_reducible refine Below.drew ?_) | (with_reducible refine below_drewN ?_ _) | (with_reducible refine bel_alloc ?_ _))); done)); rintro e u1 ⟨rfl, hu1⟩)
    | (go_at_call 11; (with_reducible refine (S4.out _ _ _ _ _ (htoR (by assumption) ?_) (htoR (by assumption) ?_)).mono ?_); (focus ((repeat (first | (with_reducible exact Below.refl _ _) | (with_reducible assumption) | (with_reducible exact bel_box _) | (with_reducible refine bel_step ?_ (by with_reducible assumption)) | (with_reducible refine Below.drew ?_) | (with_reducible refine below_drewN ?_ _) | (with_reducible refine bel_alloc ?_ _))); done)); (focus ((repeat (first | (with_reducible exact Below.refl _ _) | (with_reducible assumption) | (with_reducible exact bel_box _) | (with_reducible refine bel_step ?_ (by with_reducible assumption)) | (with_reducible refine Below.drew ?_) | (with_reducible refine below_drewN ?_ _) | (with_reducible refine bel_alloc ?_ _))); done)); rintro e u2 ⟨rfl, hu2⟩; obtain ⟨x0, x1⟩ := RB.out u2 (by repeat (first | (with_reducible exact Below.refl _ _) | (with_reducible assumption) | (with_reducible exact bel_box _) | (with_reducible refine bel_step ?_ (by with_reducible assumption)) | (with_reducible refine Below.drew ?_) | (with_reducible refine below_drewN ?_ _) | (with_reducible refine bel_alloc ?_ _))))
    | (go_at_call 11; (with_reducible refine (SW.out _ _ _ _ _ (htoR (by assumption) ?_) (htoR RW ?_)).mono ?_); (focus ((repeat (first | (with_reducible exact Below.refl _ _) | (with_reducible assumption) | (with_reducible exact bel_box _) | (with_reducible refine bel_step ?_ (by with_reducible assumption)) | (with_reducible refine Below.drew ?_) | (with_reducible refine below_drewN ?_ _) | (with_reducible refine bel_alloc ?_ _))); done)); (focus ((repeat (first | (with_reducible exact Below.refl _ _) | (with_reducible assumption) | (with_reducible exact bel_box _) | (with_reducible refine bel_step ?_ (by with_reducible assumption)) | (with_reducible refine Below.drew ?_) | (with_reducible refine below_drewN ?_ _) | (with_reducible refine bel_alloc ?_ _))); done)); rintro e u3 ⟨rfl, hu3⟩)
    | (go_at_call 11; (with_reducible refine (S01.out _ _ _ _ _ (htoR (by assumption) ?_) (htoR (by assumption) ?_)).mono ?_); (focus ((repeat (first | (with_reducible exact Below.refl _ _) | (with_reducible assumption) | (with_reducible exact bel_box _) | (with_reducible refine bel_step ?_ (by with_reducible assumption)) | (with_reducible refine Below.drew ?_) | (with_reducible refine below_drewN ?_ _) | (with_reducible refine bel_alloc ?_ _))); done)); (focus ((repeat (first | (with_reducible exact Below.refl _ _) | (with_reducible assumption) | (with_reducible exact bel_box _) | (with_reducible refine bel_step ?_ (by with_reducible assumption)) | (with_reducible refine Below.drew ?_) | (with_reducible refine below_drewN ?_ _) | (with_reducible refine bel_alloc ?_ _))); done)); rintro e u4 ⟨rfl, hu4⟩)
    | (go_at_call 11; (with_reducible refine (S33.out _ _ _ _ _ (htoR (by assumption) ?_) (htoR (by assumption) ?_)).mono ?_); (focus ((repeat (first | (with_reducible exact Below.refl _ _) | (with_reducible assumption) | (with_reducible exact bel_box _) | (with_reducible refine bel_step ?_ (by with_reducible assumption)) | (with_reducible refine Below.drew ?_) | (with_reducible refine below_drewN ?_ _) | (with_reducible refine bel_alloc ?_ _))); done)); (focus ((repeat (first | (with_reducible exact Below.refl _ _) | (with_reducible assumption) | (with_reducible exact bel_box _) | (with_reducible refine bel_step ?_ (by with_reducible assumption)) | (with_reducible refine Below.drew ?_) | (with_reducible refine below_drewN ?_ _) | (with_reducible refine bel_alloc ?_ _))); done)); rintro e u5 ⟨rfl, hu5⟩)
    | (go_at_call 33; (with_reducible refine (I12.out _ _ ?_).mono ?_); (focus (exact rd_new (is_ [1, 2]) rfl)); rintro e w2 ⟨A2, c2, rfl, R2, hb2⟩; skip)
    | (go_at_call 33; (with_reducible refine (I3.out _ _ ?_).mono ?_); (focus (exact rd_new (is_ [3]) rfl)); rintro e w3 ⟨A3, c3, rfl, R3, hb3⟩)
    | (go_at_call 33; (with_reducible refine (I4.out _ _ ?_).mono ?_); (focus (exact rd_new (is_ [4]) rfl)); rintro e w4 ⟨A4, c4, rfl, R4, hb4⟩)
    | (go_at_call 33; (with_reducible refine (I00.out _ _ ?_).mono ?_); (focus (exact rd_new (is_ [0, 0]) rfl)); rintro e w5 ⟨A5, c5, rfl, R5, hb5⟩)
    | (go_at_call 33; (with_reducible refine (I01.out _ _ ?_).mono ?_); (focus (exact rd_new (is_ [0, 1]) rfl)); rintro e w6 ⟨A6, c6, rfl, R6, hb6⟩)
    | (go_at_call 33; (with_reducible refine (I33.out _ _ ?_).mono ?_); (focus (exact rd_new (is_ [3, 3]) rfl)); rintro e w7 ⟨A7, c7, rfl, R7, hb7⟩)
    | (go_at_call 12; (with_reducible refine (KL.out A2 c2 A3 c3 _ _ ?_).mono ?_); (focus (exact RdS.new [⟨A2, c2, [(1, 1), (1, 2)]⟩, ⟨A3, c3, [(1, 3)]⟩] _ rfl (rl2 _ _ _ (htoR R2 (by repeat (first | (with_reducible exact Below.refl _ _) | (with_reducible assumption) | (with_reducible exact bel_box _) | (with_reducible refine bel_step ?_ (by with_reducible assumption)) | (with_reducible refine Below.drew ?_) | (with_reducible refine below_drewN ?_ _) | (with_reducible refine bel_alloc ?_ _)))) (htoR R3 (by repeat (first | (with_reducible exact Below.refl _ _) | (with_reducible assumption) | (with_reducible exact bel_box _) | (with_reducible refine bel_step ?_ (by with_reducible assumption)) | (with_reducible refine Below.drew ?_) | (with_reducible refine below_drewN ?_ _) | (with_reducible refine bel_alloc ?_ _))))))); rintro e w8 ⟨A8, c8, rfl, R8, hb8⟩)
    | (go_at_call 26; (with_reducible refine (KW.out _ ?_).mono ?_); (focus ((repeat (first | (with_reducible exact Below.refl _ _) | (with_reducible assumption) | (with_reducible exact bel_box _) | (with_reducible refine bel_step ?_ (by with_reducible assumption)) | (with_reducible refine Below.drew ?_) | (with_reducible refine below_drewN ?_ _) | (with_reducible refine bel_alloc ?_ _))); done)); rintro e w9 ⟨A9, c9, rfl, R9, hb9⟩)
    | (go_at_call 22; (with_reducible refine (KF.out _ _ _ _ _ (htoR (by assumption) ?_) (htoR (by assumption) ?_)).mono ?_); (focus ((repeat (first | (with_reducible exact Below.refl _ _) | (with_reducible assumption) | (with_reducible exact bel_box _) | (with_reducible refine bel_step ?_ (by with_reducible assumption)) | (with_reducible refine Below.drew ?_) | (with_reducible refine below_drewN ?_ _) | (with_reducible refine bel_alloc ?_ _))); done)); (focus ((repeat (first | (with_reducible exact Below.refl _ _) | (with_reducible assumption) | (with_reducible exact bel_box _) | (with_reducible refine bel_step ?_ (by with_reducible assumption)) | (with_reducible refine Below.drew ?_) | (with_reducible refine below_drewN ?_ _) | (with_reducible refine bel_alloc ?_ _))); done)); rintro e w10 ⟨A10, c10, rfl, R10, hb10⟩)
    | (go_at_call 14; (with_reducible refine (KC.out _).mono ?_); rintro e w11 ⟨A11, c11, rfl, R11, hb11⟩))
  go_ret
  have hb6 := HB6.out
  exact ⟨rfl, bel_step hb6 (by repeat (first | (with_reducible exact Below.refl _ _) | (with_reducible assumption) | (with_reducible exact bel_box _) | (with_reducible refine bel_step ?_ (by with_reducible assumption)) | (with_reducible refine Below.drew ?_) | (with_reducible refine below_drewN ?_ _) | (with_reducible refine bel_alloc ?_ _)))⟩
end Go.Proofs.Ytefmnjcllncmpaa
/- long; StreamLifts, StreamDelays. -/
namespace Go.Proofs.Ytefmnjcllncmpaa
set_option linter.unusedVariables false
set_option linter.unusedSimpArgs false
open Go.RowKit
def longB (ls : List St) : Bool := decide (8 < ls.length) || ls.any fun s => decide (300 < s.l.length)
theorem longB_no {ls : List St} (h : longB ls = false) : ls.length ≤ 8 ∧ ∀ s ∈ ls, s.l.length ≤ 300 := by
  unfold longB at h
  rw [Bool.or_eq_false_iff] at h
  refine ⟨by simpa using h.1, fun s hs => ?_⟩
  have := (List.any_eq_false.1 h.2) s hs
  simpa using this
set_option maxHeartbeats 1000000 in
theorem long_any (A : Option Addr) (c : Nat) (ls : List St) (w : World) (hA : RdS w w.heap.size A ls) (hl : ls.length ≤ 9223372036854775807) (h3 : ∀ s ∈ ls, s.l.length ≤ 9223372036854775807) :
    Calls Try.prog 9 #[.slice A ls.length c] w (Bel (.bool (longB ls)) w) := by
  by_cases h8 : 8 < ls.length
  · have hb : longB ls = true := by unfold longB; rw [decide_eq_true h8]; rfl
    rw [hb]
    have g1 : (8 : Int) < (ls.length : Int) := by omega
    go_enter Try.func9, Try.ntmps9
    go_wp2
    go_ret
    exact ⟨rfl, Below.refl _ _⟩
  · have HA := Lib.hid hA
    have H3 := Lib.hid h3
    have g1 : ¬ (8 : Int) < (ls.length : Int) := by omega
    have HB : Hid (longB ls = ls.any fun s => decide (300 < s.l.length)) := Lib.hid (by unfold longB; rw [decide_eq_false h8]; rfl)
    clear hA h3
    go_enter Try.func9, Try.ntmps9
    go_wp2
    go_loopw [3] (fun i wr => ∃ k : Nat, k ≤ ls.length ∧ i = .int .i64 (k : Int) ∧ Hid ((ls.take k).any (fun s => decide (300 < s.l.length)) = false) ∧ Below w.heap.size w wr) (fun i _ => ls.length - (intOf i).toNat)
    case atStart => exact ⟨0, by omega, rfl, Lib.hid rfl, Below.refl _ _⟩
    case round =>
      obtain ⟨k, hk, rfl, hn, hbl⟩ := hrel
      by_cases hlt : k < ls.length
      · obtain ⟨ad, s, rfl, had, hs, hc, _⟩ := (HA.out.to hbl).at_ hlt
        have hm := H3.out s (List.mem_of_getElem? hs)
        have HT : Hid ((ls.take (k + 1)).any (fun s => decide (300 < s.l.length)) = decide (300 < s.l.length)) := Lib.hid (by rw [take_succ_of hs, List.any_append, hn.out]; simp)
        have HY : Hid (300 < s.l.length → longB ls = true) := Lib.hid fun h => by rw [HB.out, List.any_eq_true]; exact ⟨s, List.mem_of_getElem? hs, by simpa using h⟩
        clear hs
        generalize s.l.length = m at *
        by_cases h1 : 300 < m
        · have HZ := Lib.hid (HY.out h1)
          have g2 : (300 : Int) < (m : Int) := by omega
          clear HY HT
          go_wp2
          go_ret
          exact ⟨by rw [HZ.out]; rfl, (by repeat (first | (with_reducible exact Below.refl _ _) | (with_reducible assumption) | (with_reducible exact bel_box _) | (with_reducible refine bel_step ?_ (by with_reducible assumption)) | (with_reducible refine Below.drew ?_) | (with_reducible refine below_drewN ?_ _) | (with_reducible refine bel_alloc ?_ _)))⟩
        · have g2 : ¬ (300 : Int) < (m : Int) := by omega
          clear HY
          go_wp2
          go_roundw
          case rel => exact ⟨k + 1, by omega, by go_num, Lib.hid (by rw [HT.out]; simpa using h1), (by repeat (first | (with_reducible exact Below.refl _ _) | (with_reducible assumption) | (with_reducible exact bel_box _) | (with_reducible refine bel_step ?_ (by with_reducible assumption)) | (with_reducible refine Below.drew ?_) | (with_reducible refine below_drewN ?_ _) | (with_reducible refine bel_alloc ?_ _)))⟩
          case measure => simp [intOf]; omega
      · obtain rfl : k = ls.length := by omega
        have hn' := hn.out
        rw [List.take_length, ← HB.out] at hn'
        have HZ := Lib.hid hn'
        clear hn hn' HB H3
        go_wp2
        go_ret
        exact ⟨by rw [HZ.out]; rfl, hbl⟩
/-- as NewC, with the row hidden and the length told -/
def NewH (xs : List (Int × Int)) (n : Nat) (w : World) (e : Ending) (w' : World) : Prop := ∃ A c, e = .returned (.slice A n c) ∧ Hid (RdC w' w'.heap.size A xs) ∧ Below w.heap.size w w'
theorem newH {xs : List (Int × Int)} {n : Nat} {w w' : World} {e : Ending} (hn : xs.length = n) (h : NewC xs w e w') : NewH xs n w e w' := by
  subst hn
  obtain ⟨A, c, e1, h1, h2⟩ := h
  exact ⟨A, c, e1, Lib.hid h1, h2⟩
theorem same_h (xs : List (Int × Int)) (n : Nat) (hn : xs.length = n) (hl : n ≤ 1000000) : Hid (∀ A B c d W, RdC W W.heap.size A xs → RdC W W.heap.size B xs → Calls Try.prog 11 #[.slice A n c, .slice B n d] W (Bel (.bool true) W)) := Lib.hid fun A B c d W h1 h2 => by
  subst hn
  exact same_any A B c d xs W h1 h2 hl
theorem map_len (f : List (Int × Int) → Int × Int) (ls : List St) (t : Nat) : ((rowsTo ls t).map f).length = t := by simp [rowsTo]
end Go.Proofs.Ytefmnjcllncmpaa
/- The frame of a law's row: a call that returns true and leaves the old blocks alone meets the row; arguments that are slices of bools are opened. -/
namespace Go.Proofs.Ytefmnjcllncmpaa
set_option linter.unusedVariables false
set_option linter.unusedSimpArgs false
open Go.ChangeShapes Go.WideShapes Go.ChangeAt Go.RowKit Go.Deep
section
variable {H : Type} {enc : TypeId × Value → H} {P : Program}
theorem trodAll_below (hl : laidOutB P = true) {W W' : World} (hb : Below W.heap.size W W') : ∀ {ts : List TypeId} {vs : List Value} {ds : List (DataW H)} {ps : List MemPlace},
    (∀ t ∈ ts, P.readableRec t = true ∧ t < P.types.size) → DataW.TrodAll enc P W 0 (fun _ => true) true ts vs ds ps → (∀ x ∈ ps, x.block < W.heap.size) →
    DataW.TrodAll enc P W' 0 (fun b => decide (b < W.heap.size)) true ts vs ds ps := by
  intro ts
  induction ts with
  | nil => intro vs ds ps _ h _; cases vs <;> cases ds <;> simp_all [DataW.TrodAll]
  | cons t ts ih =>
    intro vs ds ps ht h hlt
    match vs, ds, h with
    | v :: vs, d :: ds, ⟨p, q, h1, h2, e⟩ =>
      subst e
      obtain ⟨hr, hs⟩ := ht t (by simp)
      exact ⟨p, q, Below.trod hl hr hs h1 hb (fun x hx => hlt x (by simp [hx])), ih (fun u hu => ht u (by simp [hu])) h2 (fun x hx => hlt x (by simp [hx])), rfl⟩
theorem law_post {f : Func} {s : ChangeSpec} {W W' : World} {args : Array Value} {ds gs : List (DataW H)} {before : List MemPlace} {tb : TypeId}
    (hW : DataW.Whole enc P f.params.toList s.vars false W args.toList ds gs before) (hv : s.vars = [])
    (hs : (s.fn H (ds ++ gs)).results = [.lit (.bool true)] ∧ (s.fn H (ds ++ gs)).args = ds ∧ (s.fn H (ds ++ gs)).vars = [])
    (hf : f.resultTypes = #[tb]) (htb : P.underlying tb = some .bool) (hl : laidOutB P = true) (hts : ∀ t ∈ f.params.toList, P.readableRec t = true ∧ t < P.types.size)
    (hb : Below W.heap.size W W') : s.post enc P f false true false false W args (.bool true) W' := by
  have hW' := hW
  obtain ⟨p, q, hA, hV, rfl, _, _⟩ := hW
  rw [hv] at hV
  obtain ⟨rfl, rfl⟩ := trodVars_none hV
  refine ⟨ds, [], p ++ [], [], p, [], hW', ?_, ?_, ?_, hb.frame _, fun h => by cases h⟩
  · rw [hs.1, hf]
    exact trodAll_mk1 (shut_bool htb true)
  · rw [hs.2.1]
    exact trodAll_below hl hb hts hA (fun x hx => hW'.lt x (by simp [hx]))
  · rw [hv, hs.2.2]
    rfl
end
end Go.Proofs.Ytefmnjcllncmpaa
/- The frame of a law's row over words: an argument that is a word, opened. -/
namespace Go.Proofs.Ytefmnjcllncmpaa
set_option linter.unusedVariables false
set_option linter.unusedSimpArgs false
open Go.ChangeShapes Go.WideShapes Go.ChangeAt Go.RowKit Go.Deep Go.WideElems
theorem int_le {n : Int} (h : (Lit.int .i64 n).wf = true) : n ≤ 9223372036854775807 := by
  have h2 : n ≤ IntKind.i64.max := by simp only [Lit.wf, Bool.and_eq_true, decide_eq_true_eq] at h; exact h.2
  exact h2
section
variable {H : Type} {enc : TypeId × Value → H} {P : Program}
theorem open_bls2 {w : World} {held : Bool} {base : Nat} {t e : TypeId} {fuel : Nat} {v : Value} {x : DataW H × List MemPlace} (ht : P.underlying t = some (.slice e)) (he : P.underlying e = some .bool) (hc : P.cellsOf e = 1) (hby : P.bytesOf e = 1)
    (h : DataW.trod enc P w base (fun _ => true) held fuel t [v] = some x) (hsz : ∀ n ∈ x.1.weights P t, n ≤ reachBytes) :
    ∃ (A : Option Addr) (l : List Bool) (c : Nat), v = .slice A l.length c ∧ Rd w w.heap.size A (bls l) ∧ l.length ≤ c ∧ c ≤ 140737488355328 := by
  rcases open_slice1 ht hc h with ⟨hcs, _⟩ | ⟨a, len, cap, m, n, V, D, Pl, hcs, _, hl, hm, hmm, hx0, hx⟩
  · simp only [List.cons.injEq, and_true] at hcs
    exact ⟨none, [], 0, hcs, Rd.nil _ _ _, Nat.le_refl _, by omega⟩
  · simp only [List.cons.injEq, and_true] at hcs
    have hmc : m = cap := by simpa using hmm
    have hw := hsz (m * 1) (by
      rw [hx0]
      simp only [DataW.weights, ht, hby, List.length_map, List.length_range, List.mem_cons]
      exact Or.inl (by omega))
    have hr := reachBytes_lt
    refine ⟨some a, (List.range len).map fun i => match V i with | .bool b => b | _ => false, cap, by simp [hcs], ?_, by simpa using hl, by omega⟩
    have key : ∀ i, i < len → w.cell? (a.add i) = some (.bool (match V i with | .bool b => b | _ => false)) := by
      intro i hi
      obtain ⟨h1, h2⟩ := hx i (by omega)
      obtain ⟨b, hb, _⟩ := DataW.trod_bool he h2
      simp only [List.cons.injEq, and_true] at hb
      rw [h1, hb]
    intro hne
    refine ⟨a, rfl, ?_, ?_⟩
    · have h0 : 0 < len := by
        rcases Nat.eq_zero_or_pos len with h | h
        · subst h; simp [bls] at hne
        · exact h
      have := World.block_lt_of_cell? w _ (key 0 h0)
      rwa [add_block] at this
    · intro j u hu
      have hj : j < len := by
        have := (List.getElem?_eq_some_iff.1 hu).1
        simpa [bls] using this
      rw [key j hj]
      simpa [bls, hj] using hu
/-- a word, opened -/
theorem open_word {w : World} {held : Bool} {base b0 : Nat} {r : Reach} {T t e : TypeId} {f0 f1 : Field} {v : Value} {d : DataW H} {p : List MemPlace} (hs : P.underlying T = some (.struct #[f0, f1])) (hone : oneCellFields P #[f0, f1] = true) (hC : P.cellsOf T = 2)
    (ht0 : f0.type = t) (ht1 : f1.type = t) (ht : P.underlying t = some (.slice e)) (he : P.underlying e = some .bool) (hc : P.cellsOf e = 1) (hby : P.bytesOf e = 1)
    (hv : Value.okWide P w r b0 T v) (h : DataW.Trod enc P w base (fun _ => true) held T v d p) (hsz : ∀ n ∈ d.weights P T, n ≤ reachBytes) :
    ∃ (A B : Option Addr) (x y : List Bool) (c g : Nat), v = .agg #[.slice A x.length c, .slice B y.length g] ∧ Rd w w.heap.size A (bls x) ∧ Rd w w.heap.size B (bls y) ∧ x.length ≤ c ∧ y.length ≤ g ∧ x.length ≤ 140737488355328 ∧ y.length ≤ 140737488355328 := by
  obtain ⟨v0, v1, y0, y1, n, rfl, rfl, rfl, h0, h1⟩ := Go.Joins.open_agg2 hs hone hC hv h
  have hw : DataW.weights P T (.agg [y0.1, y1.1]) = y0.1.weights P t ++ (y1.1.weights P t ++ []) := by
    simp [DataW.weights, DataW.weightsEach, hs, ht0, ht1]
  rw [hw] at hsz
  rw [ht0] at h0
  rw [ht1] at h1
  obtain ⟨A, x, c, rfl, hA, hx, hx2⟩ := open_bls2 ht he hc hby h0 (fun n hn => hsz n (by simp [hn]))
  obtain ⟨B, y, g, rfl, hB, hy, hy2⟩ := open_bls2 ht he hc hby h1 (fun n hn => hsz n (by simp [hn]))
  exact ⟨A, B, x, y, c, g, rfl, hA, hB, hx, hy, by omega, by omega⟩
end
end Go.Proofs.Ytefmnjcllncmpaa
/- Arguments that are streams, and rows of streams, opened. -/
namespace Go.Proofs.Ytefmnjcllncmpaa
set_option linter.unusedVariables false
set_option linter.unusedSimpArgs false
open Go.ChangeShapes Go.WideShapes Go.ChangeAt Go.RowKit Go.Deep Go.WideElems
section
variable {H : Type} {enc : TypeId × Value → H} {P : Program} {w : World} {held : Bool} {base : Nat}
theorem choose_list {α : Type} {p : Nat → α → Prop} : ∀ n, (∀ i, i < n → ∃ e, p i e) → ∃ l : List α, l.length = n ∧ ∀ i e, l[i]? = some e → p i e := by
  intro n
  induction n with
  | zero => exact fun _ => ⟨[], rfl, fun i e h => by simp at h⟩
  | succ n ih =>
    intro h
    obtain ⟨l, hl, hp⟩ := ih fun i hi => h i (by omega)
    obtain ⟨e, he⟩ := h n (by omega)
    refine ⟨l ++ [e], by simp [hl], fun i x hx => ?_⟩
    rcases Nat.lt_or_ge i n with hi | hi
    · exact hp i x (by rwa [List.getElem?_append_left (by omega)] at hx)
    · rw [List.getElem?_append_right (by omega)] at hx
      have hi2 : i = n := by
        have := (List.getElem?_eq_some_iff.1 hx).1
        simp at this
        omega
      subst hi2
      rw [hl, Nat.sub_self] at hx
      obtain rfl : e = x := by simpa using hx
      exact he
/-- a slice of cells, opened -/
theorem rd_cells {t e : TypeId} {f0 f1 : Field} {fuel : Nat} {v : Value} {x : DataW H × List MemPlace} (ht : P.underlying t = some (.slice e)) (he : P.underlying e = some (.struct #[f0, f1]))
    (ce : P.cellsOf e = 2) (o0 : f0.offset = 0) (o1 : f1.offset = 1) (c0 : P.cellsOf f0.type = 1) (c1 : P.cellsOf f1.type = 1) (i0 : P.underlying f0.type = some (.int .i64)) (i1 : P.underlying f1.type = some (.int .i64))
    (h : DataW.trod enc P w base (fun _ => true) held fuel t [v] = some x) :
    ∃ (A : Option Addr) (l : List (Int × Int)) (c : Nat), v = .slice A l.length c ∧ RdC w w.heap.size A l ∧ l.length ≤ 9223372036854775807 := by
  rcases open_slice_pairs ht he ce o0 o1 c0 c1 h with ⟨hv, _⟩ | ⟨a, len, cap, m, n, V0, V1, D0, D1, P0, P1, hv, _, hl, hm, hmm, _, hx⟩
  · simp only [List.cons.injEq, and_true] at hv
    exact ⟨none, [], 0, hv, fun h => absurd rfl h, by simp⟩
  · simp only [List.cons.injEq, and_true] at hv
    have hmc : m = cap := by simpa using hmm
    obtain ⟨l, hll, hp⟩ := choose_list (p := fun i (e : Int × Int) => w.cell? (a.add (i * 2)) = some (.int .i64 e.1) ∧ w.cell? (a.add (i * 2 + 1)) = some (.int .i64 e.2)) len fun i hi => by
      obtain ⟨h1, h2, h3, h4⟩ := hx i (by omega)
      obtain ⟨n0, e0, _⟩ := DataW.trod_int i0 h3
      obtain ⟨n1, e1, _⟩ := DataW.trod_int i1 h4
      simp only [List.cons.injEq, and_true] at e0 e1
      exact ⟨(n0, n1), by rw [h1, e0], by rw [h2, e1]⟩
    refine ⟨some a, l, cap, by rw [hll]; exact hv, fun hne => ⟨a, rfl, ?_, hp⟩, by rw [hll]; unfold maxLen at hm; omega⟩
    have h0 : 0 < l.length := List.length_pos_iff.2 hne
    have := World.block_lt_of_cell? w _ (hp 0 _ (List.getElem?_eq_getElem h0)).1
    rwa [add_block] at this
/-- a row of streams, opened -/
theorem rd_streams {t e e2 : TypeId} {f0 f1 : Field} {fuel : Nat} {v : Value} {x : DataW H × List MemPlace} (ht : P.underlying t = some (.slice e)) (hce : P.cellsOf e = 1) (he0 : P.underlying e = some (.slice e2)) (he : P.underlying e2 = some (.struct #[f0, f1]))
    (ce : P.cellsOf e2 = 2) (o0 : f0.offset = 0) (o1 : f1.offset = 1) (c0 : P.cellsOf f0.type = 1) (c1 : P.cellsOf f1.type = 1) (i0 : P.underlying f0.type = some (.int .i64)) (i1 : P.underlying f1.type = some (.int .i64))
    (h : DataW.trod enc P w base (fun _ => true) held fuel t [v] = some x) :
    ∃ (A : Option Addr) (l : List St) (c : Nat), v = .slice A l.length c ∧ RdS w w.heap.size A l ∧ l.length ≤ 9223372036854775807 ∧ ∀ s ∈ l, s.l.length ≤ 9223372036854775807 := by
  rcases open_slice1 ht hce h with ⟨hv, _⟩ | ⟨a, len, cap, m, n, V, D, Pl, hv, _, hl, hm, hmm, _, hx⟩
  · simp only [List.cons.injEq, and_true] at hv
    exact ⟨none, [], 0, hv, ⟨fun h => absurd rfl h, fun s hs => by simp at hs⟩, by simp, fun s hs => by simp at hs⟩
  · simp only [List.cons.injEq, and_true] at hv
    have hmc : m = cap := by simpa using hmm
    obtain ⟨l, hll, hp⟩ := choose_list (p := fun i (s : St) => w.cell? (a.add i) = some (stV s) ∧ RdC w w.heap.size s.A s.l ∧ s.l.length ≤ 9223372036854775807) len fun i hi => by
      obtain ⟨h1, h2⟩ := hx i (by omega)
      obtain ⟨A', l', c', hv', hR', hL'⟩ := rd_cells he0 he ce o0 o1 c0 c1 i0 i1 h2
      exact ⟨⟨A', c', l'⟩, by rw [h1, hv']; rfl, hR', hL'⟩
    refine ⟨some a, l, cap, by rw [hll]; exact hv, ⟨fun hne => ⟨a, rfl, ?_, fun j u hu => ?_⟩, fun s hs => ?_⟩, by rw [hll]; unfold maxLen at hm; omega, fun s hs => ?_⟩
    · have h0 : 0 < l.length := by
        rcases Nat.eq_zero_or_pos l.length with h | h
        · exact absurd (by rw [List.eq_nil_of_length_eq_zero h]; rfl) hne
        · exact h
      have := World.block_lt_of_cell? w _ (hp 0 _ (List.getElem?_eq_getElem h0)).1
      rwa [add_block] at this
    · rw [List.getElem?_map] at hu
      obtain ⟨s, hs, rfl⟩ := Option.map_eq_some_iff.1 hu
      exact (hp j s hs).1
    · obtain ⟨i, hi⟩ := List.getElem?_of_mem hs
      exact (hp i s hi).2.1
    · obtain ⟨i, hi⟩ := List.getElem?_of_mem hs
      exact (hp i s hi).2.2
end
end Go.Proofs.Ytefmnjcllncmpaa
