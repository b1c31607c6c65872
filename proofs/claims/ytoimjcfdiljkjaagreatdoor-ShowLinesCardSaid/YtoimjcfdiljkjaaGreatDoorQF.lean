import Derived.Laws.IdiomStrings
import Derived.Laws.Concat
import Derived.IntWalk
import Derived.Deep.RegionWith
import Derived.Test.YtoimjcfdiljkjaaGreatDoorQE
set_option linter.unusedVariables false
set_option linter.unusedSimpArgs false
namespace Go.Proofs.YtoimjcfdiljkjaaGreatDoor
open Go.RowKit Go.Sort
set_option maxHeartbeats 2000000 in
set_option maxRecDepth 20000 in
theorem wr_node (w0 : World) (b m : Nat) (E : Rw va.En) (l : List UInt8) (x : Nt) (w : World) (hs : Std w0) (hE : RsE w0 w0.heap.size E) (hM : SymM w0 m) (hx : RsN w0 w0.heap.size x)
    (hd : ∀ r : Rw Dt, r = x.ins ∨ r = x.outs ∨ r = x.locs → r.l.length ≤ 17592186044416 ∧ ∀ d ∈ r.l, d.ck.l.length ≤ 17592186044416) (hq : ∀ q ∈ x.qs.l, wfQ q) (hc : ∀ r : Rw Xt, r = x.asm ∨ r = x.ens → ∀ y ∈ r.l, ∀ z ∈ y.list, wfX z) (hW : ∀ a ∈ x.au.l, ∀ t ∈ a.l, WfS a.l.length t)
    (hb : Below w0.heap.size w0 w) (h : Wr w0.heap.size b E m (Lib.byteCells l) w) (hlen : (l ++ linS 0 ([110, 111, 100, 101, 32] ++ bsT x.nm ++ [40] ++ dcsS E.l x.ins.l ++ [41, 32, 114, 101, 116, 117, 114, 110, 115, 32, 40] ++ dcsS E.l x.outs.l ++ [41]) ++ lcsS E.l 1 x.locs.l ++ cmsS E.l ⟨#[97, 115, 115, 117, 109, 101, 32]⟩ x.asm.l ++ cmsS E.l ⟨#[101, 110, 115, 117, 114, 101, 32]⟩ x.ens.l ++ linS 0 ([108, 101, 116]) ++ (x.qs.l.map (eq1S E.l 1)).flatten ++ (x.au.l.map (auS E.l 1)).flatten ++ linS 0 ([116, 101, 108])).length ≤ 140737488355328) :
    Calls Tryz.prog 25 #[.pointer (some ⟨b, 0, none⟩), nV x] w (fun e w' => e = .returned (.tuple #[]) ∧ Wr w0.heap.size b E m (Lib.byteCells (l ++ linS 0 ([110, 111, 100, 101, 32] ++ bsT x.nm ++ [40] ++ dcsS E.l x.ins.l ++ [41, 32, 114, 101, 116, 117, 114, 110, 115, 32, 40] ++ dcsS E.l x.outs.l ++ [41]) ++ lcsS E.l 1 x.locs.l ++ cmsS E.l ⟨#[97, 115, 115, 117, 109, 101, 32]⟩ x.asm.l ++ cmsS E.l ⟨#[101, 110, 115, 117, 114, 101, 32]⟩ x.ens.l ++ linS 0 ([108, 101, 116]) ++ (x.qs.l.map (eq1S E.l 1)).flatten ++ (x.au.l.map (auS E.l 1)).flatten ++ linS 0 ([116, 101, 108]))) w' ∧ Below w0.heap.size w w' ∧ Oth b w w') := by
  obtain ⟨_, x1, x2, x3, x4, x5, x6, x7⟩ := hx
  have HL := Lib.hid hlen
  have hsz := hb.size
  have hne : w.heap.size ≠ b := by
    have : b < w.heap.size := by rcases h with h | h <;> exact h.lt
    omega
  have KD : ∀ r : Rw Dt, (r = x.ins ∨ r = x.outs ∨ r = x.locs) → RsDs w0 w0.heap.size r → (dcsS E.l r.l).length ≤ 140737488355328 → ∀ W, Below w.heap.size w W → Calls Tryz.prog 52 #[phV E m, .slice r.A r.l.length r.c] W (Bel (.string (tB (dcsS E.l r.l))) W) := fun r hr1 hr2 hr3 W hW' => by
    have hb' : Below w0.heap.size w0 W := hb.trans (hW'.mono hsz)
    exact ph_decls E m r W (hs.to hb') (hE.blw hb' hb'.size) (hr2.blw hb' hb'.size) (hd r hr1).1 (hd r hr1).2 hr3
  have hl1 : (l ++ linS 0 ([110, 111, 100, 101, 32] ++ bsT x.nm ++ [40] ++ dcsS E.l x.ins.l ++ [41, 32, 114, 101, 116, 117, 114, 110, 115, 32, 40] ++ dcsS E.l x.outs.l ++ [41])).length ≤ 140737488355328 := by simp only [List.length_append] at hlen ⊢; omega
  have KI := Lib.hid (KD x.ins (.inl rfl) x1 (by unfold linS at hl1; simp only [List.length_append] at hl1; omega))
  have KO := Lib.hid (KD x.outs (.inr (.inl rfl)) x2 (by unfold linS at hl1; simp only [List.length_append] at hl1; omega))
  have KL : Hid (∀ W, Below w.heap.size w W → Calls Tryz.prog 50 #[.pointer (some ⟨b, 0, none⟩), .int .i64 0, .slice (some ⟨W.heap.size, 0, none⟩) 7 7] (W.alloc (.cells #[.string ⟨#[110, 111, 100, 101, 32]⟩, .string x.nm, .string ⟨#[40]⟩, .string (tB (dcsS E.l x.ins.l)), .string ⟨#[41, 32, 114, 101, 116, 117, 114, 110, 115, 32, 40]⟩, .string (tB (dcsS E.l x.outs.l)), .string ⟨#[41]⟩] 9))
      fun e w' => e = .returned (.tuple #[]) ∧ Wr w0.heap.size b E m (Lib.byteCells (l ++ linS 0 ([110, 111, 100, 101, 32] ++ bsT x.nm ++ [40] ++ dcsS E.l x.ins.l ++ [41, 32, 114, 101, 116, 117, 114, 110, 115, 32, 40] ++ dcsS E.l x.outs.l ++ [41]))) w' ∧ Below w0.heap.size W w' ∧ Oth b W w') := Lib.hid fun W hW9 => by
    have ef : (([⟨#[110, 111, 100, 101, 32]⟩, x.nm, ⟨#[40]⟩, (tB (dcsS E.l x.ins.l)), ⟨#[41, 32, 114, 101, 116, 117, 114, 110, 115, 32, 40]⟩, (tB (dcsS E.l x.outs.l)), ⟨#[41]⟩] : List ByteArray).map bsT).flatten = [110, 111, 100, 101, 32] ++ bsT x.nm ++ [40] ++ dcsS E.l x.ins.l ++ [41, 32, 114, 101, 116, 117, 114, 110, 115, 32, 40] ++ dcsS E.l x.outs.l ++ [41] := by
      simp only [List.map_cons, List.map_nil, List.flatten_cons, List.flatten_nil, bsT_tB, List.append_nil]
      try simp only [List.append_assoc]
      try rfl
    have := wr_lineA w0.heap.size b m E (l) 0 7 [⟨#[110, 111, 100, 101, 32]⟩, x.nm, ⟨#[40]⟩, (tB (dcsS E.l x.ins.l)), ⟨#[41, 32, 114, 101, 116, 117, 114, 110, 115, 32, 40]⟩, (tB (dcsS E.l x.outs.l)), ⟨#[41]⟩] #[.string ⟨#[110, 111, 100, 101, 32]⟩, .string x.nm, .string ⟨#[40]⟩, .string (tB (dcsS E.l x.ins.l)), .string ⟨#[41, 32, 114, 101, 116, 117, 114, 110, 115, 32, 40]⟩, .string (tB (dcsS E.l x.outs.l)), .string ⟨#[41]⟩] W (h.below hW9) (Nat.le_trans hsz hW9.size) (by omega) (by simp) rfl (by rw [ef]; exact hl1)
    rw [ef] at this
    exact this
  have KLC : Hid (∀ W : World, Below w0.heap.size w0 W → Wr w0.heap.size b E m (Lib.byteCells (l ++ linS 0 ([110, 111, 100, 101, 32] ++ bsT x.nm ++ [40] ++ dcsS E.l x.ins.l ++ [41, 32, 114, 101, 116, 117, 114, 110, 115, 32, 40] ++ dcsS E.l x.outs.l ++ [41]))) W → Calls Tryz.prog 53 #[.pointer (some ⟨b, 0, none⟩), .int .i64 1, .slice x.locs.A x.locs.l.length x.locs.c] W (fun e w' => e = .returned (.tuple #[]) ∧ Wr w0.heap.size b E m (Lib.byteCells (l ++ linS 0 ([110, 111, 100, 101, 32] ++ bsT x.nm ++ [40] ++ dcsS E.l x.ins.l ++ [41, 32, 114, 101, 116, 117, 114, 110, 115, 32, 40] ++ dcsS E.l x.outs.l ++ [41]) ++ lcsS E.l 1 x.locs.l)) w' ∧ Below w0.heap.size W w' ∧ Oth b W w')) := Lib.hid fun W hW1 hW2 =>
    wr_locals w0 b m E (l ++ linS 0 ([110, 111, 100, 101, 32] ++ bsT x.nm ++ [40] ++ dcsS E.l x.ins.l ++ [41, 32, 114, 101, 116, 117, 114, 110, 115, 32, 40] ++ dcsS E.l x.outs.l ++ [41])) 1 x.locs W hs hE x3 (hd x.locs (.inr (.inr rfl))).1 (hd x.locs (.inr (.inr rfl))).2 (by omega) hW1 hW2 (by simp only [List.length_append] at hlen ⊢; omega)
  have KC1 : Hid (∀ W : World, Below w0.heap.size w0 W → Wr w0.heap.size b E m (Lib.byteCells (l ++ linS 0 ([110, 111, 100, 101, 32] ++ bsT x.nm ++ [40] ++ dcsS E.l x.ins.l ++ [41, 32, 114, 101, 116, 117, 114, 110, 115, 32, 40] ++ dcsS E.l x.outs.l ++ [41]) ++ lcsS E.l 1 x.locs.l)) W → Calls Tryz.prog 54 #[.pointer (some ⟨b, 0, none⟩), .string ⟨#[97, 115, 115, 117, 109, 101, 32]⟩, .slice x.asm.A x.asm.l.length x.asm.c] W (fun e w' => e = .returned (.tuple #[]) ∧ Wr w0.heap.size b E m (Lib.byteCells (l ++ linS 0 ([110, 111, 100, 101, 32] ++ bsT x.nm ++ [40] ++ dcsS E.l x.ins.l ++ [41, 32, 114, 101, 116, 117, 114, 110, 115, 32, 40] ++ dcsS E.l x.outs.l ++ [41]) ++ lcsS E.l 1 x.locs.l ++ cmsS E.l ⟨#[97, 115, 115, 117, 109, 101, 32]⟩ x.asm.l)) w' ∧ Below w0.heap.size W w' ∧ Oth b W w')) := Lib.hid fun W hW1 hW2 =>
    wr_claims w0 b m E (l ++ linS 0 ([110, 111, 100, 101, 32] ++ bsT x.nm ++ [40] ++ dcsS E.l x.ins.l ++ [41, 32, 114, 101, 116, 117, 114, 110, 115, 32, 40] ++ dcsS E.l x.outs.l ++ [41]) ++ lcsS E.l 1 x.locs.l) ⟨#[97, 115, 115, 117, 109, 101, 32]⟩ x.asm W hs hE hM x6 (hc x.asm (.inl rfl)) hW1 hW2 (by simp only [List.length_append] at hlen ⊢; omega)
  have KC2 : Hid (∀ W : World, Below w0.heap.size w0 W → Wr w0.heap.size b E m (Lib.byteCells (l ++ linS 0 ([110, 111, 100, 101, 32] ++ bsT x.nm ++ [40] ++ dcsS E.l x.ins.l ++ [41, 32, 114, 101, 116, 117, 114, 110, 115, 32, 40] ++ dcsS E.l x.outs.l ++ [41]) ++ lcsS E.l 1 x.locs.l ++ cmsS E.l ⟨#[97, 115, 115, 117, 109, 101, 32]⟩ x.asm.l)) W → Calls Tryz.prog 54 #[.pointer (some ⟨b, 0, none⟩), .string ⟨#[101, 110, 115, 117, 114, 101, 32]⟩, .slice x.ens.A x.ens.l.length x.ens.c] W (fun e w' => e = .returned (.tuple #[]) ∧ Wr w0.heap.size b E m (Lib.byteCells (l ++ linS 0 ([110, 111, 100, 101, 32] ++ bsT x.nm ++ [40] ++ dcsS E.l x.ins.l ++ [41, 32, 114, 101, 116, 117, 114, 110, 115, 32, 40] ++ dcsS E.l x.outs.l ++ [41]) ++ lcsS E.l 1 x.locs.l ++ cmsS E.l ⟨#[97, 115, 115, 117, 109, 101, 32]⟩ x.asm.l ++ cmsS E.l ⟨#[101, 110, 115, 117, 114, 101, 32]⟩ x.ens.l)) w' ∧ Below w0.heap.size W w' ∧ Oth b W w')) := Lib.hid fun W hW1 hW2 =>
    wr_claims w0 b m E (l ++ linS 0 ([110, 111, 100, 101, 32] ++ bsT x.nm ++ [40] ++ dcsS E.l x.ins.l ++ [41, 32, 114, 101, 116, 117, 114, 110, 115, 32, 40] ++ dcsS E.l x.outs.l ++ [41]) ++ lcsS E.l 1 x.locs.l ++ cmsS E.l ⟨#[97, 115, 115, 117, 109, 101, 32]⟩ x.asm.l) ⟨#[101, 110, 115, 117, 114, 101, 32]⟩ x.ens W hs hE hM x7 (hc x.ens (.inr rfl)) hW1 hW2 (by simp only [List.length_append] at hlen ⊢; omega)
  have KLT : Hid (∀ W : World, Below w0.heap.size w0 W → Wr w0.heap.size b E m (Lib.byteCells (l ++ linS 0 ([110, 111, 100, 101, 32] ++ bsT x.nm ++ [40] ++ dcsS E.l x.ins.l ++ [41, 32, 114, 101, 116, 117, 114, 110, 115, 32, 40] ++ dcsS E.l x.outs.l ++ [41]) ++ lcsS E.l 1 x.locs.l ++ cmsS E.l ⟨#[97, 115, 115, 117, 109, 101, 32]⟩ x.asm.l ++ cmsS E.l ⟨#[101, 110, 115, 117, 114, 101, 32]⟩ x.ens.l)) W → Calls Tryz.prog 50 #[.pointer (some ⟨b, 0, none⟩), .int .i64 0, .slice (some ⟨W.heap.size, 0, none⟩) 1 1] (W.alloc (.cells #[.string ⟨#[108, 101, 116]⟩] 9)) (fun e w' => e = .returned (.tuple #[]) ∧ Wr w0.heap.size b E m (Lib.byteCells (l ++ linS 0 ([110, 111, 100, 101, 32] ++ bsT x.nm ++ [40] ++ dcsS E.l x.ins.l ++ [41, 32, 114, 101, 116, 117, 114, 110, 115, 32, 40] ++ dcsS E.l x.outs.l ++ [41]) ++ lcsS E.l 1 x.locs.l ++ cmsS E.l ⟨#[97, 115, 115, 117, 109, 101, 32]⟩ x.asm.l ++ cmsS E.l ⟨#[101, 110, 115, 117, 114, 101, 32]⟩ x.ens.l ++ linS 0 ([108, 101, 116]))) w' ∧ Below w0.heap.size W w' ∧ Oth b W w')) := Lib.hid fun W hW hW2 => by
    have := wr_lineA w0.heap.size b m E (l ++ linS 0 ([110, 111, 100, 101, 32] ++ bsT x.nm ++ [40] ++ dcsS E.l x.ins.l ++ [41, 32, 114, 101, 116, 117, 114, 110, 115, 32, 40] ++ dcsS E.l x.outs.l ++ [41]) ++ lcsS E.l 1 x.locs.l ++ cmsS E.l ⟨#[97, 115, 115, 117, 109, 101, 32]⟩ x.asm.l ++ cmsS E.l ⟨#[101, 110, 115, 117, 114, 101, 32]⟩ x.ens.l) 0 1 [⟨#[108, 101, 116]⟩] #[.string ⟨#[108, 101, 116]⟩] W hW2 hW.size (by omega) (by simp) rfl (by show (l ++ linS 0 ([110, 111, 100, 101, 32] ++ bsT x.nm ++ [40] ++ dcsS E.l x.ins.l ++ [41, 32, 114, 101, 116, 117, 114, 110, 115, 32, 40] ++ dcsS E.l x.outs.l ++ [41]) ++ lcsS E.l 1 x.locs.l ++ cmsS E.l ⟨#[97, 115, 115, 117, 109, 101, 32]⟩ x.asm.l ++ cmsS E.l ⟨#[101, 110, 115, 117, 114, 101, 32]⟩ x.ens.l ++ linS 0 ([108, 101, 116])).length ≤ _; simp only [List.length_append] at hlen ⊢; omega)
    exact this
  have KBD : Hid (∀ W : World, Below w0.heap.size w0 W → Wr w0.heap.size b E m (Lib.byteCells (l ++ linS 0 ([110, 111, 100, 101, 32] ++ bsT x.nm ++ [40] ++ dcsS E.l x.ins.l ++ [41, 32, 114, 101, 116, 117, 114, 110, 115, 32, 40] ++ dcsS E.l x.outs.l ++ [41]) ++ lcsS E.l 1 x.locs.l ++ cmsS E.l ⟨#[97, 115, 115, 117, 109, 101, 32]⟩ x.asm.l ++ cmsS E.l ⟨#[101, 110, 115, 117, 114, 101, 32]⟩ x.ens.l ++ linS 0 ([108, 101, 116]))) W → Calls Tryz.prog 55 #[.pointer (some ⟨b, 0, none⟩), .int .i64 1, .slice x.qs.A x.qs.l.length x.qs.c, .slice x.au.A x.au.l.length x.au.c] W (fun e w' => e = .returned (.tuple #[]) ∧ Wr w0.heap.size b E m (Lib.byteCells (l ++ linS 0 ([110, 111, 100, 101, 32] ++ bsT x.nm ++ [40] ++ dcsS E.l x.ins.l ++ [41, 32, 114, 101, 116, 117, 114, 110, 115, 32, 40] ++ dcsS E.l x.outs.l ++ [41]) ++ lcsS E.l 1 x.locs.l ++ cmsS E.l ⟨#[97, 115, 115, 117, 109, 101, 32]⟩ x.asm.l ++ cmsS E.l ⟨#[101, 110, 115, 117, 114, 101, 32]⟩ x.ens.l ++ linS 0 ([108, 101, 116]) ++ (x.qs.l.map (eq1S E.l 1)).flatten ++ (x.au.l.map (auS E.l 1)).flatten)) w' ∧ Below w0.heap.size W w' ∧ Oth b W w')) := Lib.hid fun W hW1 hW2 =>
    wr_body w0 b m E (l ++ linS 0 ([110, 111, 100, 101, 32] ++ bsT x.nm ++ [40] ++ dcsS E.l x.ins.l ++ [41, 32, 114, 101, 116, 117, 114, 110, 115, 32, 40] ++ dcsS E.l x.outs.l ++ [41]) ++ lcsS E.l 1 x.locs.l ++ cmsS E.l ⟨#[97, 115, 115, 117, 109, 101, 32]⟩ x.asm.l ++ cmsS E.l ⟨#[101, 110, 115, 117, 114, 101, 32]⟩ x.ens.l ++ linS 0 ([108, 101, 116])) 1 x.qs x.au (auS E.l 1) W hs hE hM x4 hq (by omega) x5.1 (Lib.hid fun a ha l' W' q1 q2 q3 => wr_au w0 b m E hs hE hM 1 (by omega) a (x5.2 a ha) (hW a ha) l' W' q1 q2 q3) hW1 hW2 (by simp only [List.length_append] at hlen ⊢; omega)
  have KTL : Hid (∀ W : World, Below w0.heap.size w0 W → Wr w0.heap.size b E m (Lib.byteCells (l ++ linS 0 ([110, 111, 100, 101, 32] ++ bsT x.nm ++ [40] ++ dcsS E.l x.ins.l ++ [41, 32, 114, 101, 116, 117, 114, 110, 115, 32, 40] ++ dcsS E.l x.outs.l ++ [41]) ++ lcsS E.l 1 x.locs.l ++ cmsS E.l ⟨#[97, 115, 115, 117, 109, 101, 32]⟩ x.asm.l ++ cmsS E.l ⟨#[101, 110, 115, 117, 114, 101, 32]⟩ x.ens.l ++ linS 0 ([108, 101, 116]) ++ (x.qs.l.map (eq1S E.l 1)).flatten ++ (x.au.l.map (auS E.l 1)).flatten)) W → Calls Tryz.prog 50 #[.pointer (some ⟨b, 0, none⟩), .int .i64 0, .slice (some ⟨W.heap.size, 0, none⟩) 1 1] (W.alloc (.cells #[.string ⟨#[116, 101, 108]⟩] 9)) (fun e w' => e = .returned (.tuple #[]) ∧ Wr w0.heap.size b E m (Lib.byteCells (l ++ linS 0 ([110, 111, 100, 101, 32] ++ bsT x.nm ++ [40] ++ dcsS E.l x.ins.l ++ [41, 32, 114, 101, 116, 117, 114, 110, 115, 32, 40] ++ dcsS E.l x.outs.l ++ [41]) ++ lcsS E.l 1 x.locs.l ++ cmsS E.l ⟨#[97, 115, 115, 117, 109, 101, 32]⟩ x.asm.l ++ cmsS E.l ⟨#[101, 110, 115, 117, 114, 101, 32]⟩ x.ens.l ++ linS 0 ([108, 101, 116]) ++ (x.qs.l.map (eq1S E.l 1)).flatten ++ (x.au.l.map (auS E.l 1)).flatten ++ linS 0 ([116, 101, 108]))) w' ∧ Below w0.heap.size W w' ∧ Oth b W w')) := Lib.hid fun W hW hW2 => by
    have := wr_lineA w0.heap.size b m E (l ++ linS 0 ([110, 111, 100, 101, 32] ++ bsT x.nm ++ [40] ++ dcsS E.l x.ins.l ++ [41, 32, 114, 101, 116, 117, 114, 110, 115, 32, 40] ++ dcsS E.l x.outs.l ++ [41]) ++ lcsS E.l 1 x.locs.l ++ cmsS E.l ⟨#[97, 115, 115, 117, 109, 101, 32]⟩ x.asm.l ++ cmsS E.l ⟨#[101, 110, 115, 117, 114, 101, 32]⟩ x.ens.l ++ linS 0 ([108, 101, 116]) ++ (x.qs.l.map (eq1S E.l 1)).flatten ++ (x.au.l.map (auS E.l 1)).flatten) 0 1 [⟨#[116, 101, 108]⟩] #[.string ⟨#[116, 101, 108]⟩] W hW2 hW.size (by omega) (by simp) rfl (by show (l ++ linS 0 ([110, 111, 100, 101, 32] ++ bsT x.nm ++ [40] ++ dcsS E.l x.ins.l ++ [41, 32, 114, 101, 116, 117, 114, 110, 115, 32, 40] ++ dcsS E.l x.outs.l ++ [41]) ++ lcsS E.l 1 x.locs.l ++ cmsS E.l ⟨#[97, 115, 115, 117, 109, 101, 32]⟩ x.asm.l ++ cmsS E.l ⟨#[101, 110, 115, 117, 114, 101, 32]⟩ x.ens.l ++ linS 0 ([108, 101, 116]) ++ (x.qs.l.map (eq1S E.l 1)).flatten ++ (x.au.l.map (auS E.l 1)).flatten ++ linS 0 ([116, 101, 108])).length ≤ _; simp only [List.length_append] at hlen ⊢; omega)
    exact this
  obtain ⟨W0, hW0⟩ : ∃ W0, w.alloc (.cells #[.string x.nm, .slice x.ins.A x.ins.l.length x.ins.c, .slice x.outs.A x.outs.l.length x.outs.c, .slice x.locs.A x.locs.l.length x.locs.c, .slice x.qs.A x.qs.l.length x.qs.c, .slice x.au.A x.au.l.length x.au.c, .slice x.asm.A x.asm.l.length x.asm.c, .slice x.ens.A x.ens.l.length x.ens.c] 45) = W0 := ⟨_, rfl⟩
  have hB0 : Below w.heap.size w W0 := by rw [← hW0]; exact bel_box _
  have kB : W0.heap[w.heap.size]? = some (.cells #[.string x.nm, .slice x.ins.A x.ins.l.length x.ins.c, .slice x.outs.A x.outs.l.length x.outs.c, .slice x.locs.A x.locs.l.length x.locs.c, .slice x.qs.A x.qs.l.length x.qs.c, .slice x.au.A x.au.l.length x.au.c, .slice x.asm.A x.asm.l.length x.asm.c, .slice x.ens.A x.ens.l.length x.ens.c] 45 (0, 0)) := by rw [← hW0]; exact heap_alloc_new w _
  have s0 := cell_below hB0 h.cells.1
  have s1 := cell_below hB0 h.cells.2
  have x0 : W0.cell? ⟨w.heap.size, 0, none⟩ = some (.string x.nm) := by rw [Lib.cell_of_heap kB]; rfl
  have x1 : W0.cell? ⟨w.heap.size, 1, none⟩ = some (.slice x.ins.A x.ins.l.length x.ins.c) := by rw [Lib.cell_of_heap kB]; rfl
  have x2 : W0.cell? ⟨w.heap.size, 2, none⟩ = some (.slice x.outs.A x.outs.l.length x.outs.c) := by rw [Lib.cell_of_heap kB]; rfl
  have HW0 := Lib.hid hW0
  clear hW0 h hlen hl1 KD hd hq hc hW hs hE hM x3 x4 x5 x6 x7
  generalize tB (dcsS E.l x.ins.l) = ji at *
  generalize tB (dcsS E.l x.outs.l) = jo at *
  go_enter Tryz.func25, Tryz.ntmps25
  go_wp2
  rw [HW0.out]
  go_region_held3 (fun w' => w'.cell? ⟨b, 0, none⟩ = some (.slice E.A E.l.length E.c) ∧ w'.cell? ⟨b, 1, none⟩ = some (.map (some m)) ∧ w'.cell? ⟨w.heap.size, 0, none⟩ = some (.string x.nm) ∧ w'.cell? ⟨w.heap.size, 1, none⟩ = some (.slice x.ins.A x.ins.l.length x.ins.c) ∧ w'.cell? ⟨w.heap.size, 2, none⟩ = some (.slice x.outs.A x.outs.l.length x.outs.c)) (first | exact ⟨s0, s1, x0, x1, x2⟩ | exact ⟨cell_below hX1 s0, cell_below hX1 s1, cell_below hX1 x0, cell_below hX1 x1, cell_below hX1 x2⟩ | exact ⟨cell_below hX2 s0, cell_below hX2 s1, cell_below hX2 x0, cell_below hX2 x1, cell_below hX2 x2⟩ | exact ⟨cell_below (bel_alloc hX2 _) s0, cell_below (bel_alloc hX2 _) s1, cell_below (bel_alloc hX2 _) x0, cell_below (bel_alloc hX2 _) x1, cell_below (bel_alloc hX2 _) x2⟩ | exact ⟨v0, v1, y0, y1, y2⟩)
    (first
      | (go_at_call 52; (with_reducible refine (KI.out _ ?_).mono ?_); (exact bl); rintro e' w1 ⟨rfl, hb1⟩; have hX1 : Below W0.heap.size W0 w1 := bl)
      | (go_at_call 52; (with_reducible refine (KO.out _ ?_).mono ?_); (exact bl); rintro e' w2 ⟨rfl, hb2⟩; have hX2 : Below W0.heap.size W0 w2 := bl)
      | (go_at_call 50; (refine (KL.out _ (hB0.trans (hX2.mono hB0.size))).mono ?_); rintro e' w3 ⟨rfl, hw3, hb3, ho3⟩; have v0 := hw3.cells.1; have v1 := hw3.cells.2; have kC := ho3 _ _ _ _ ((hX2.block _ (Array.getElem?_eq_some_iff.1 kB).1).trans kB) hne (by decide); have y0 : w3.cell? ⟨w.heap.size, 0, none⟩ = some (.string x.nm) := (by rw [Lib.cell_of_heap kC]; rfl); have y1 : w3.cell? ⟨w.heap.size, 1, none⟩ = some (.slice x.ins.A x.ins.l.length x.ins.c) := (by rw [Lib.cell_of_heap kC]; rfl); have y2 : w3.cell? ⟨w.heap.size, 2, none⟩ = some (.slice x.outs.A x.outs.l.length x.outs.c) := (by rw [Lib.cell_of_heap kC]; rfl); have y3 : w3.cell? ⟨w.heap.size, 3, none⟩ = some (.slice x.locs.A x.locs.l.length x.locs.c) := (by rw [Lib.cell_of_heap kC]; rfl); have y4 : w3.cell? ⟨w.heap.size, 4, none⟩ = some (.slice x.qs.A x.qs.l.length x.qs.c) := (by rw [Lib.cell_of_heap kC]; rfl); have y5 : w3.cell? ⟨w.heap.size, 5, none⟩ = some (.slice x.au.A x.au.l.length x.au.c) := (by rw [Lib.cell_of_heap kC]; rfl); have y6 : w3.cell? ⟨w.heap.size, 6, none⟩ = some (.slice x.asm.A x.asm.l.length x.asm.c) := (by rw [Lib.cell_of_heap kC]; rfl); have y7 : w3.cell? ⟨w.heap.size, 7, none⟩ = some (.slice x.ens.A x.ens.l.length x.ens.c) := (by rw [Lib.cell_of_heap kC]; rfl)))
  have hB2 : Below w.heap.size w w2 := hB0.trans (hX2.mono hB0.size)
  have hb3w : Below w0.heap.size w w3 := (hB2.mono hsz).trans hb3
  have ho3w : Oth b w w3 := (Oth.below hB2).trans ho3
  have hv3 : Below w0.heap.size w0 w3 := hb.trans hb3w
  have y3 : w3.cell? ⟨w.heap.size, 3, none⟩ = some (.slice x.locs.A x.locs.l.length x.locs.c) := by rw [Lib.cell_of_heap kC]; rfl
  have y4 : w3.cell? ⟨w.heap.size, 4, none⟩ = some (.slice x.qs.A x.qs.l.length x.qs.c) := by rw [Lib.cell_of_heap kC]; rfl
  have y5 : w3.cell? ⟨w.heap.size, 5, none⟩ = some (.slice x.au.A x.au.l.length x.au.c) := by rw [Lib.cell_of_heap kC]; rfl
  have y6 : w3.cell? ⟨w.heap.size, 6, none⟩ = some (.slice x.asm.A x.asm.l.length x.asm.c) := by rw [Lib.cell_of_heap kC]; rfl
  have y7 : w3.cell? ⟨w.heap.size, 7, none⟩ = some (.slice x.ens.A x.ens.l.length x.ens.c) := by rw [Lib.cell_of_heap kC]; rfl
  clear KI KO KL HL
  go_wp2_with (first
    | (go_at_call 53; (with_reducible refine (KLC.out _ hv3 hw3).mono ?_); rintro e' w4 ⟨rfl, hw4, hb4, ho4⟩; have k4 := ho4 _ _ _ _ kC hne (by decide); have p4_3 : w4.cell? ⟨w.heap.size, 3, none⟩ = some (.slice x.locs.A x.locs.l.length x.locs.c) := (by rw [Lib.cell_of_heap k4]; rfl); have p4_4 : w4.cell? ⟨w.heap.size, 4, none⟩ = some (.slice x.qs.A x.qs.l.length x.qs.c) := (by rw [Lib.cell_of_heap k4]; rfl); have p4_5 : w4.cell? ⟨w.heap.size, 5, none⟩ = some (.slice x.au.A x.au.l.length x.au.c) := (by rw [Lib.cell_of_heap k4]; rfl); have p4_6 : w4.cell? ⟨w.heap.size, 6, none⟩ = some (.slice x.asm.A x.asm.l.length x.asm.c) := (by rw [Lib.cell_of_heap k4]; rfl); have p4_7 : w4.cell? ⟨w.heap.size, 7, none⟩ = some (.slice x.ens.A x.ens.l.length x.ens.c) := (by rw [Lib.cell_of_heap k4]; rfl); have hv4 : Below w0.heap.size w0 w4 := hv3.trans hb4)
    | (go_at_call 54; (with_reducible refine (KC1.out _ hv4 hw4).mono ?_); rintro e' w5 ⟨rfl, hw5, hb5, ho5⟩; have k5 := ho5 _ _ _ _ k4 hne (by decide); have p5_3 : w5.cell? ⟨w.heap.size, 3, none⟩ = some (.slice x.locs.A x.locs.l.length x.locs.c) := (by rw [Lib.cell_of_heap k5]; rfl); have p5_4 : w5.cell? ⟨w.heap.size, 4, none⟩ = some (.slice x.qs.A x.qs.l.length x.qs.c) := (by rw [Lib.cell_of_heap k5]; rfl); have p5_5 : w5.cell? ⟨w.heap.size, 5, none⟩ = some (.slice x.au.A x.au.l.length x.au.c) := (by rw [Lib.cell_of_heap k5]; rfl); have p5_6 : w5.cell? ⟨w.heap.size, 6, none⟩ = some (.slice x.asm.A x.asm.l.length x.asm.c) := (by rw [Lib.cell_of_heap k5]; rfl); have p5_7 : w5.cell? ⟨w.heap.size, 7, none⟩ = some (.slice x.ens.A x.ens.l.length x.ens.c) := (by rw [Lib.cell_of_heap k5]; rfl); have hv5 : Below w0.heap.size w0 w5 := hv4.trans hb5)
    | (go_at_call 54; (with_reducible refine (KC2.out _ hv5 hw5).mono ?_); rintro e' w6 ⟨rfl, hw6, hb6, ho6⟩; have k6 := ho6 _ _ _ _ k5 hne (by decide); have p6_3 : w6.cell? ⟨w.heap.size, 3, none⟩ = some (.slice x.locs.A x.locs.l.length x.locs.c) := (by rw [Lib.cell_of_heap k6]; rfl); have p6_4 : w6.cell? ⟨w.heap.size, 4, none⟩ = some (.slice x.qs.A x.qs.l.length x.qs.c) := (by rw [Lib.cell_of_heap k6]; rfl); have p6_5 : w6.cell? ⟨w.heap.size, 5, none⟩ = some (.slice x.au.A x.au.l.length x.au.c) := (by rw [Lib.cell_of_heap k6]; rfl); have p6_6 : w6.cell? ⟨w.heap.size, 6, none⟩ = some (.slice x.asm.A x.asm.l.length x.asm.c) := (by rw [Lib.cell_of_heap k6]; rfl); have p6_7 : w6.cell? ⟨w.heap.size, 7, none⟩ = some (.slice x.ens.A x.ens.l.length x.ens.c) := (by rw [Lib.cell_of_heap k6]; rfl); have hv6 : Below w0.heap.size w0 w6 := hv5.trans hb6)
    | (go_at_call 50; (with_reducible refine (KLT.out _ hv6 hw6).mono ?_); rintro e' w7 ⟨rfl, hw7, hb7, ho7⟩; have k7 := ho7 _ _ _ _ k6 hne (by decide); have p7_3 : w7.cell? ⟨w.heap.size, 3, none⟩ = some (.slice x.locs.A x.locs.l.length x.locs.c) := (by rw [Lib.cell_of_heap k7]; rfl); have p7_4 : w7.cell? ⟨w.heap.size, 4, none⟩ = some (.slice x.qs.A x.qs.l.length x.qs.c) := (by rw [Lib.cell_of_heap k7]; rfl); have p7_5 : w7.cell? ⟨w.heap.size, 5, none⟩ = some (.slice x.au.A x.au.l.length x.au.c) := (by rw [Lib.cell_of_heap k7]; rfl); have p7_6 : w7.cell? ⟨w.heap.size, 6, none⟩ = some (.slice x.asm.A x.asm.l.length x.asm.c) := (by rw [Lib.cell_of_heap k7]; rfl); have p7_7 : w7.cell? ⟨w.heap.size, 7, none⟩ = some (.slice x.ens.A x.ens.l.length x.ens.c) := (by rw [Lib.cell_of_heap k7]; rfl); have hv7 : Below w0.heap.size w0 w7 := hv6.trans hb7)
    | (go_at_call 55; (with_reducible refine (KBD.out _ hv7 hw7).mono ?_); rintro e' w8 ⟨rfl, hw8, hb8, ho8⟩; have k8 := ho8 _ _ _ _ k7 hne (by decide); have p8_3 : w8.cell? ⟨w.heap.size, 3, none⟩ = some (.slice x.locs.A x.locs.l.length x.locs.c) := (by rw [Lib.cell_of_heap k8]; rfl); have p8_4 : w8.cell? ⟨w.heap.size, 4, none⟩ = some (.slice x.qs.A x.qs.l.length x.qs.c) := (by rw [Lib.cell_of_heap k8]; rfl); have p8_5 : w8.cell? ⟨w.heap.size, 5, none⟩ = some (.slice x.au.A x.au.l.length x.au.c) := (by rw [Lib.cell_of_heap k8]; rfl); have p8_6 : w8.cell? ⟨w.heap.size, 6, none⟩ = some (.slice x.asm.A x.asm.l.length x.asm.c) := (by rw [Lib.cell_of_heap k8]; rfl); have p8_7 : w8.cell? ⟨w.heap.size, 7, none⟩ = some (.slice x.ens.A x.ens.l.length x.ens.c) := (by rw [Lib.cell_of_heap k8]; rfl); have hv8 : Below w0.heap.size w0 w8 := hv7.trans hb8)
    | (go_at_call 50; (with_reducible refine (KTL.out _ hv8 hw8).mono ?_); rintro e' w9 ⟨rfl, hw9, hb9, ho9⟩; have k9 := ho9 _ _ _ _ k8 hne (by decide); have p9_3 : w9.cell? ⟨w.heap.size, 3, none⟩ = some (.slice x.locs.A x.locs.l.length x.locs.c) := (by rw [Lib.cell_of_heap k9]; rfl); have p9_4 : w9.cell? ⟨w.heap.size, 4, none⟩ = some (.slice x.qs.A x.qs.l.length x.qs.c) := (by rw [Lib.cell_of_heap k9]; rfl); have p9_5 : w9.cell? ⟨w.heap.size, 5, none⟩ = some (.slice x.au.A x.au.l.length x.au.c) := (by rw [Lib.cell_of_heap k9]; rfl); have p9_6 : w9.cell? ⟨w.heap.size, 6, none⟩ = some (.slice x.asm.A x.asm.l.length x.asm.c) := (by rw [Lib.cell_of_heap k9]; rfl); have p9_7 : w9.cell? ⟨w.heap.size, 7, none⟩ = some (.slice x.ens.A x.ens.l.length x.ens.c) := (by rw [Lib.cell_of_heap k9]; rfl); have hv9 : Below w0.heap.size w0 w9 := hv8.trans hb9))
  go_end0
  exact ⟨rfl, hw9, hb3w.trans (hb4.trans (hb5.trans (hb6.trans (hb7.trans (hb8.trans hb9))))), ho3w.trans (ho4.trans (ho5.trans (ho6.trans (ho7.trans (ho8.trans ho9)))))⟩
end Go.Proofs.YtoimjcfdiljkjaaGreatDoor
namespace Go.Proofs.YtoimjcfdiljkjaaGreatDoor.va
open Go.RowKit
theorem dig_wrap (d : Nat) (h : d < 10) : IntKind.u8.wrap (48 + (d : Int)) = ((UInt8.ofNat (48 + d)).toNat : Int) := by
  have e : (UInt8.ofNat (48 + d)).toNat = 48 + d := by
    rw [UInt8.toNat_ofNat']
    omega
  rw [e]
  simp only [IntKind.wrap, IntKind.signed, IntKind.bits]
  simp
  omega
theorem conv_one (W : World) (b : UInt8) : (convert 67 9 (.slice (some ⟨W.heap.size, 0, none⟩) 1 1)).run Tryz.prog (W.alloc (.cells #[.int .u8 (b.toNat : Int)] 5)) = .ok (.string ⟨#[b]⟩) (W.alloc (.cells #[.int .u8 (b.toNat : Int)] 5)) := by
  have k := run_convert_bytes_back (P := Tryz.prog) (W.alloc (.cells #[.int .u8 (b.toNat : Int)] 5)) 67 9 5 ⟨W.heap.size, 0, none⟩ 1 [b] Tryz.underlying67 Tryz.underlying5 Tryz.underlying9
    (fun j hj => by
      rw [add_off, cell_of_row _ _ j _ _ (0, 0) (heap_alloc_new W _)]
      obtain rfl : j = 0 := by simpa using hj
      rfl)
  exact k
theorem dec_small (u : Nat) (h : u < 10) (w : World) : Calls Tryz.prog 145 #[.int .i64 u] w (Bel (.string ⟨(Lib.decDigits u).toArray⟩) w) := by
  have hw := dig_wrap u h
  have kc := fun W => conv_one W (UInt8.ofNat (48 + u))
  rw [Go.Lib.decDigits_one h]
  generalize UInt8.ofNat (48 + u) = b at *
  go_enter Tryz.func145, Tryz.ntmps145
  go_wp2
  go_ret
  exact ⟨rfl, bl⟩
theorem nDig_le (u : Nat) (h : u ≤ 100000) : Lib.nDigits u ≤ 6 := by
  rcases Nat.lt_or_ge u 10 with h1 | h1
  · rw [Go.Lib.nDigits_small h1]; omega
  rw [Go.Lib.nDigits_big (by omega)]
  rcases Nat.lt_or_ge (u / 10) 10 with h2 | h2
  · rw [Go.Lib.nDigits_small h2]; omega
  rw [Go.Lib.nDigits_big (by omega)]
  rcases Nat.lt_or_ge (u / 10 / 10) 10 with h3 | h3
  · rw [Go.Lib.nDigits_small h3]; omega
  rw [Go.Lib.nDigits_big (by omega)]
  rcases Nat.lt_or_ge (u / 10 / 10 / 10) 10 with h4 | h4
  · rw [Go.Lib.nDigits_small h4]; omega
  rw [Go.Lib.nDigits_big (by omega)]
  rcases Nat.lt_or_ge (u / 10 / 10 / 10 / 10) 10 with h5 | h5
  · rw [Go.Lib.nDigits_small h5]; omega
  rw [Go.Lib.nDigits_big (by omega), Go.Lib.nDigits_small (by omega)]
  omega
theorem dec_size (u : Nat) (h : u ≤ 100000) : (ByteArray.mk (Lib.decDigits u).toArray).size ≤ 6 := by
  rw [ByteArray.size, List.size_toArray, Go.Lib.decDigits_length]
  exact nDig_le u h
theorem conv_at (b : UInt8) (W : World) (g : Nat) (h : W.cell? ⟨g, 0, none⟩ = some (.int .u8 (b.toNat : Int))) : (convert 67 9 (.slice (some ⟨g, 0, none⟩) 1 1)).run Tryz.prog W = .ok (.string ⟨#[b]⟩) W :=
  run_convert_bytes_back (P := Tryz.prog) W 67 9 5 ⟨g, 0, none⟩ 1 [b] Tryz.underlying67 Tryz.underlying5 Tryz.underlying9 (fun j hj => by
    obtain rfl : j = 0 := by simpa using hj
    rw [add_off]
    exact h)
theorem cell_new1 {w W' : World} {v : Value} {t : TypeId} (hb : Below ((w.alloc (.cells #[v] t)).drew).heap.size ((w.alloc (.cells #[v] t)).drew) W') : W'.cell? ⟨w.heap.size, 0, none⟩ = some v := by
  refine (hb.cell (p := ⟨w.heap.size, 0, none⟩) (by simp)).trans ?_
  exact cell_of_row (w.alloc (.cells #[v] t)) w.heap.size 0 #[v] t (0, 0) (heap_alloc_new w _)
theorem dec_step (q r : Nat) (hr : r < 10) (hq : 1 ≤ q) (hu : q ≤ 10000) (w : World) (ih : ∀ w, Calls Tryz.prog 145 #[.int .i64 (q : Int)] w (Bel (.string ⟨(Lib.decDigits q).toArray⟩) w)) :
    Calls Tryz.prog 145 #[.int .i64 ((10 * q + r : Nat) : Int)] w (Bel (.string ⟨(Lib.decDigits (10 * q + r)).toArray⟩) w) := by
  have hw := dig_wrap r hr
  have hd : Lib.decDigits (10 * q + r) = Lib.decDigits q ++ [UInt8.ofNat (48 + r)] := by
    rw [Lib.decDigits, dif_neg (by omega), show (10 * q + r) / 10 = q by omega, show (10 * q + r) % 10 = r by omega]
  have kc := fun W g => conv_at (UInt8.ofNat (48 + r)) W g
  generalize UInt8.ofNat (48 + r) = b at *
  have hsz : (ByteArray.mk (Lib.decDigits q).toArray).size + (ByteArray.mk #[b]).size ≤ 9223372036854775807 := by
    have := dec_size q (by omega)
    have e : (ByteArray.mk #[b]).size = 1 := rfl
    omega
  have ka := fun w => run_string_add_sum (P := Tryz.prog) w _ _ hsz
  rw [hd]
  have hcat : (ByteArray.mk (Lib.decDigits q).toArray) ++ (ByteArray.mk #[b]) = ⟨(Lib.decDigits q ++ [b]).toArray⟩ := by
    apply ByteArray.ext
    simp
  rw [hcat] at ka
  generalize Lib.decDigits q ++ [b] = l2 at *
  generalize Lib.decDigits q = l1 at *
  have KI := Lib.hid ih
  clear hsz ih hd hcat
  obtain ⟨u, hu2⟩ : ∃ u : Int, u = ((10 * q + r : Nat) : Int) := ⟨_, rfl⟩
  rw [← hu2]
  have f1 : u.tdiv 10 = (q : Int) := by rw [Int.tdiv_eq_ediv_of_nonneg (by omega)]; omega
  have f2 : u.tmod 10 = (r : Int) := by rw [Int.tmod_eq_emod_of_nonneg (by omega)]; omega
  have f3 : IntKind.i64.wrap (q : Int) = (q : Int) := Go.IntWalk.i64_in _ ⟨by omega, by omega⟩
  have f4 : IntKind.i64.wrap (48 + (r : Int)) = 48 + (r : Int) := Go.IntWalk.i64_in _ ⟨by omega, by omega⟩
  have g1 : 10 ≤ u := by omega
  have g2 : u ≤ 100010 := by omega
  clear hu2 hr hq hu
  go_enter Tryz.func145, Tryz.ntmps145
  go_wp2
  go_region_with (go_at_call 145; (with_reducible refine (KI.out _).mono ?_); rintro e w1 ⟨rfl, hb1⟩; (first | (with_reducible have hx := cell_new1 hb1) | skip))
  all_goals go_wp2
  all_goals go_ret
  all_goals exact ⟨rfl, bl⟩
theorem dec_nat (u : Nat) (hu : u ≤ 100000) : ∀ w, Calls Tryz.prog 145 #[.int .i64 (u : Int)] w (Bel (.string ⟨(Lib.decDigits u).toArray⟩) w) := by
  induction u using Nat.strongRecOn with
  | _ u ih =>
    intro w
    by_cases h : u < 10
    · exact dec_small u h w
    · have k := dec_step (u / 10) (u % 10) (by omega) (by omega) (by omega) w (ih (u / 10) (by omega) (by omega))
      rw [show 10 * (u / 10) + u % 10 = u by omega] at k
      exact k
theorem decimal_any (n : Int) (w : World) (h0 : -32768 ≤ n) (h1 : n ≤ 32767) : Calls Tryz.prog 145 #[.int .i64 n] w (Bel (.string ⟨(Lib.itoa n).toArray⟩) w) := by
  by_cases hn : n < 0
  · obtain ⟨u, hun⟩ : ∃ u : Nat, (u : Int) = -n := ⟨n.natAbs, by omega⟩
    have e : Lib.itoa n = 45 :: Lib.decDigits u := by rw [Lib.itoa, if_pos hn, show n.natAbs = u by omega]
    have hsz : (ByteArray.mk #[45]).size + (ByteArray.mk (Lib.decDigits u).toArray).size ≤ 9223372036854775807 := by
      have := dec_size u (by omega)
      have e : (ByteArray.mk #[45]).size = 1 := rfl
      omega
    have ka := fun w => run_string_add_sum (P := Tryz.prog) w _ _ hsz
    have hcat : (ByteArray.mk #[45]) ++ (ByteArray.mk (Lib.decDigits u).toArray) = ⟨(45 :: Lib.decDigits u).toArray⟩ := by
      apply ByteArray.ext
      simp
    rw [hcat] at ka
    rw [e]
    have kd := dec_nat u (by omega)
    rw [hun] at kd
    have KD := Lib.hid kd
    generalize Lib.decDigits u = l1 at *
    clear hsz hcat e hun kd
    go_enter Tryz.func145, Tryz.ntmps145
    go_wp2_with (go_at_call 145; (with_reducible refine (KD.out _).mono ?_); rintro e w1 ⟨rfl, hb1⟩)
    go_ret
    exact ⟨rfl, bl⟩
  · obtain ⟨u, rfl⟩ : ∃ u : Nat, n = (u : Int) := ⟨n.toNat, by omega⟩
    rw [Lib.itoa, if_neg hn, Int.toNat_natCast]
    exact dec_nat u (by omega) w
set_option maxHeartbeats 1000000 in
theorem rtext_any (A : Option Addr) (c : Nat) (es : List En) (t v : Int) (w : World) (hA : RdE w w.heap.size A es) (hl : es.length ≤ 9223372036854775807) (hti : t ≤ 9223372036854775807) :
    Calls Tryz.prog 114 #[.slice A es.length c, .int .i64 t, .int .i64 v] w (Bel (.tuple #[.string (textS es t v), .int .i64 (textE es t v)]) w) := by
  have KV := Lib.hid (fun w => known_any A c es t w hl hti)
  have KH := Lib.hid (rhas_any A c es t v w hA hl hti)
  have HA := Lib.hid hA
  clear hA
  by_cases hv : valB es t = true
  · by_cases hh : hasB es t v = true
    · have he : textE es t v = 0 := by rw [textE, if_pos hv, if_pos hh]
      by_cases h2 : t = 2
      · subst h2
        obtain ⟨v1, v2⟩ := hasB_16 hh
        have hx : textS es 2 v = ⟨(Lib.itoa v).toArray⟩ := by rw [textS, if_pos he, if_pos rfl]
        rw [he, hx]
        rw [hv] at KV
        rw [hh] at KH
        clear he hx hv hh hti
        go_enter Tryz.func114, Tryz.ntmps114
        go_wp2_with (first
          | (go_at_call 99; refine (KV.out _).mono ?_; rintro e w1 ⟨rfl, rfl⟩)
          | (go_at_call 41; refine KH.out.mono ?_; rintro e w2 ⟨rfl, hb2⟩)
          | (go_at_call 145; refine (decimal_any _ _ v1 v2).mono ?_; rintro e w3 ⟨rfl, hb3⟩))
        go_ret2
        exact ⟨rfl, bl⟩
      · obtain ⟨v1, v2⟩ := hasB_bd hh h2
        obtain ⟨k, rfl⟩ : ∃ k : Nat, v = k := ⟨v.toNat, by omega⟩
        have hk : k < (tagsOf es t).length := by omega
        have e2 : (t == 2) = false := by simp [h2]
        have hx : textS es t k = (tagsOf es t).getD k ⟨#[]⟩ := by rw [textS, if_pos he, if_neg h2]; rfl
        rw [he]
        rw [hv] at KV
        rw [hh] at KH
        by_cases h1 : t = 1
        · subst h1
          have hk2 : k = 0 ∨ k = 1 := by simp [tagsOf] at hk; omega
          rcases hk2 with rfl | rfl
          all_goals
            have HX := Lib.hid hx
            clear he hx hv hh h2 v1 v2 hk hti
            go_enter Tryz.func114, Tryz.ntmps114
            go_wp2_with (first
              | (go_at_call 99; refine (KV.out _).mono ?_; rintro e w1 ⟨rfl, rfl⟩)
              | (go_at_call 41; refine KH.out.mono ?_; rintro e w2 ⟨rfl, hb2⟩))
            go_ret2
            exact ⟨by rw [HX.out]; rfl, bl⟩
        · have e1 : (t == 1) = false := by simp [h1]
          have h3 : enuB es t = true := by simpa [valB, e1, e2] using hv
          obtain ⟨q, rfl⟩ : ∃ q : Nat, t = q + 3 := ⟨(t - 3).toNat, by simp [enuB] at h3; omega⟩
          have hq : q < es.length := by simp [enuB] at h3; omega
          have hen : es[q]? = some es[q] := List.getElem?_eq_getElem hq
          rw [tagsOf_enu hen] at hk hx
          have HX := Lib.hid hx
          have hkt : k < es[q].tags.length := hk
          generalize hee : es[q] = ee at *
          clear he hx hv hh h2 v1 v2 h1 h3 hti hk hee
          go_enter Tryz.func114, Tryz.ntmps114
          go_wp2_with (first
            | (go_at_call 99; refine (KV.out _).mono ?_; rintro e w1 ⟨rfl, rfl⟩)
            | (go_at_call 41; refine KH.out.mono ?_; rintro e w2 ⟨rfl, hb2⟩; obtain ⟨ad, e3, rfl, _, he3, hn3, ht3, hr3⟩ := (HA.out.to hb2).at_ hq; obtain rfl : ee = e3 := Option.some.inj (hen.symm.trans he3); obtain ⟨ad2, b, hA2, _, hgb, hcb⟩ := hr3.str_at hkt; rw [hA2] at ht3))
          go_ret2
          exact ⟨by rw [HX.out, List.getD, hgb]; rfl, bl⟩
    · rw [Bool.not_eq_true] at hh
      have he : textE es t v = 14 := by rw [textE, if_pos hv, hh]; rfl
      have hx : textS es t v = ⟨#[]⟩ := by rw [textS, he, if_neg (by omega)]
      rw [he, hx]
      rw [hv] at KV
      rw [hh] at KH
      clear he hx hv hh hti
      go_enter Tryz.func114, Tryz.ntmps114
      go_wp2_with (first
        | (go_at_call 99; refine (KV.out _).mono ?_; rintro e w1 ⟨rfl, rfl⟩)
        | (go_at_call 41; refine KH.out.mono ?_; rintro e w2 ⟨rfl, hb2⟩))
      go_ret2
      exact ⟨rfl, bl⟩
  · rw [Bool.not_eq_true] at hv
    have he : textE es t v = 10 := by rw [textE, hv]; rfl
    have hx : textS es t v = ⟨#[]⟩ := by rw [textS, he, if_neg (by omega)]
    rw [he, hx]
    rw [hv] at KV
    clear he hx hv hti
    go_enter Tryz.func114, Tryz.ntmps114
    go_wp2_with (first
      | (go_at_call 99; refine (KV.out _).mono ?_; rintro e w1 ⟨rfl, rfl⟩))
    go_ret2
    exact ⟨rfl, Below.refl _ _⟩
end Go.Proofs.YtoimjcfdiljkjaaGreatDoor.va
namespace Go.Proofs.YtoimjcfdiljkjaaGreatDoor
open Go.RowKit
theorem B1D {w W : World} (d : Dt) (h : Below (w.alloc (.cells #[.string d.nm, .int .i64 d.ty, .slice d.ck.A d.ck.l.length d.ck.c] 50)).heap.size (w.alloc (.cells #[.string d.nm, .int .i64 d.ty, .slice d.ck.A d.ck.l.length d.ck.c] 50)) W) :
    W.cell? ⟨w.heap.size, 0, none⟩ = some (.string d.nm) ∧ W.cell? ⟨w.heap.size, 1, none⟩ = some (.int .i64 d.ty) ∧ W.cell? ⟨w.heap.size, 2, none⟩ = some (.slice d.ck.A d.ck.l.length d.ck.c) ∧ w.heap.size < W.heap.size := by
  have hs := h.size
  rw [World.size_alloc] at hs
  have hc : ∀ q : Addr, q.block < w.heap.size + 1 → W.cell? q = _ := fun q hq => h.cell (by rw [World.size_alloc]; exact hq)
  refine ⟨?_, ?_, ?_, hs⟩
  all_goals (rw [hc _ (by simp)]; simp [go_sem])
theorem B2D {w W : World} (E : Rw va.En) (d : Dt) (h : Below ((w.alloc (.cells #[.slice E.A E.l.length E.c] 103)).alloc (.cells #[.string d.nm, .int .i64 d.ty, .slice d.ck.A d.ck.l.length d.ck.c] 50)).heap.size ((w.alloc (.cells #[.slice E.A E.l.length E.c] 103)).alloc (.cells #[.string d.nm, .int .i64 d.ty, .slice d.ck.A d.ck.l.length d.ck.c] 50)) W) :
    W.cell? ⟨w.heap.size, 0, none⟩ = some (.slice E.A E.l.length E.c) ∧ W.cell? ⟨w.heap.size + 1, 0, none⟩ = some (.string d.nm) ∧ W.cell? ⟨w.heap.size + 1, 1, none⟩ = some (.int .i64 d.ty) ∧ W.cell? ⟨w.heap.size + 1, 2, none⟩ = some (.slice d.ck.A d.ck.l.length d.ck.c) ∧ w.heap.size + 1 < W.heap.size := by
  have hs := h.size
  rw [World.size_alloc, World.size_alloc] at hs
  have hc : ∀ q : Addr, q.block < w.heap.size + 2 → W.cell? q = _ := fun q hq => h.cell (by rw [World.size_alloc, World.size_alloc]; exact hq)
  refine ⟨?_, ?_, ?_, ?_, hs⟩
  all_goals (rw [hc _ (by simp)]; simp [go_sem])
theorem B1O {w W : World} (o : Ot) (h : Below (w.alloc (.cells #[.string o.nm, .int .i64 o.t, .int .i64 o.tag] 57)).heap.size (w.alloc (.cells #[.string o.nm, .int .i64 o.t, .int .i64 o.tag] 57)) W) :
    W.cell? ⟨w.heap.size, 0, none⟩ = some (.string o.nm) ∧ W.cell? ⟨w.heap.size, 1, none⟩ = some (.int .i64 o.t) ∧ W.cell? ⟨w.heap.size, 2, none⟩ = some (.int .i64 o.tag) ∧ w.heap.size < W.heap.size := by
  have hs := h.size
  rw [World.size_alloc] at hs
  have hc : ∀ q : Addr, q.block < w.heap.size + 1 → W.cell? q = _ := fun q hq => h.cell (by rw [World.size_alloc]; exact hq)
  refine ⟨?_, ?_, ?_, hs⟩
  all_goals (rw [hc _ (by simp)]; simp [go_sem])
theorem B2O {w W : World} (E : Rw va.En) (o : Ot) (h : Below ((w.alloc (.cells #[.slice E.A E.l.length E.c] 103)).alloc (.cells #[.string o.nm, .int .i64 o.t, .int .i64 o.tag] 57)).heap.size ((w.alloc (.cells #[.slice E.A E.l.length E.c] 103)).alloc (.cells #[.string o.nm, .int .i64 o.t, .int .i64 o.tag] 57)) W) :
    W.cell? ⟨w.heap.size, 0, none⟩ = some (.slice E.A E.l.length E.c) ∧ W.cell? ⟨w.heap.size + 1, 0, none⟩ = some (.string o.nm) ∧ W.cell? ⟨w.heap.size + 1, 1, none⟩ = some (.int .i64 o.t) ∧ W.cell? ⟨w.heap.size + 1, 2, none⟩ = some (.int .i64 o.tag) ∧ w.heap.size + 1 < W.heap.size := by
  have hs := h.size
  rw [World.size_alloc, World.size_alloc] at hs
  have hc : ∀ q : Addr, q.block < w.heap.size + 2 → W.cell? q = _ := fun q hq => h.cell (by rw [World.size_alloc, World.size_alloc]; exact hq)
  refine ⟨?_, ?_, ?_, ?_, hs⟩
  all_goals (rw [hc _ (by simp)]; simp [go_sem])
theorem B1X {w W : World} (x : Xt) (h : Below (w.alloc (.cells #[.int .i64 x.k, .int .i64 x.op, .int .i64 x.t, .int .i64 x.v, .string x.nm, .slice x.A x.ar.length x.c] 33)).heap.size (w.alloc (.cells #[.int .i64 x.k, .int .i64 x.op, .int .i64 x.t, .int .i64 x.v, .string x.nm, .slice x.A x.ar.length x.c] 33)) W) :
    W.cell? ⟨w.heap.size, 0, none⟩ = some (.int .i64 x.k) ∧ W.cell? ⟨w.heap.size, 1, none⟩ = some (.int .i64 x.op) ∧ W.cell? ⟨w.heap.size, 2, none⟩ = some (.int .i64 x.t) ∧ W.cell? ⟨w.heap.size, 3, none⟩ = some (.int .i64 x.v) ∧ W.cell? ⟨w.heap.size, 4, none⟩ = some (.string x.nm) ∧ W.cell? ⟨w.heap.size, 5, none⟩ = some (.slice x.A x.ar.length x.c) ∧ w.heap.size < W.heap.size := by
  have hs := h.size
  rw [World.size_alloc] at hs
  have hc : ∀ q : Addr, q.block < w.heap.size + 1 → W.cell? q = _ := fun q hq => h.cell (by rw [World.size_alloc]; exact hq)
  refine ⟨?_, ?_, ?_, ?_, ?_, ?_, hs⟩
  all_goals (rw [hc _ (by simp)]; simp [go_sem])
theorem B2X {w W : World} (E : Rw va.En) (x : Xt) (h : Below ((w.alloc (.cells #[.slice E.A E.l.length E.c] 103)).alloc (.cells #[.int .i64 x.k, .int .i64 x.op, .int .i64 x.t, .int .i64 x.v, .string x.nm, .slice x.A x.ar.length x.c] 33)).heap.size ((w.alloc (.cells #[.slice E.A E.l.length E.c] 103)).alloc (.cells #[.int .i64 x.k, .int .i64 x.op, .int .i64 x.t, .int .i64 x.v, .string x.nm, .slice x.A x.ar.length x.c] 33)) W) :
    W.cell? ⟨w.heap.size, 0, none⟩ = some (.slice E.A E.l.length E.c) ∧ W.cell? ⟨w.heap.size + 1, 0, none⟩ = some (.int .i64 x.k) ∧ W.cell? ⟨w.heap.size + 1, 1, none⟩ = some (.int .i64 x.op) ∧ W.cell? ⟨w.heap.size + 1, 2, none⟩ = some (.int .i64 x.t) ∧ W.cell? ⟨w.heap.size + 1, 3, none⟩ = some (.int .i64 x.v) ∧ W.cell? ⟨w.heap.size + 1, 4, none⟩ = some (.string x.nm) ∧ W.cell? ⟨w.heap.size + 1, 5, none⟩ = some (.slice x.A x.ar.length x.c) ∧ w.heap.size + 1 < W.heap.size := by
  have hs := h.size
  rw [World.size_alloc, World.size_alloc] at hs
  have hc : ∀ q : Addr, q.block < w.heap.size + 2 → W.cell? q = _ := fun q hq => h.cell (by rw [World.size_alloc, World.size_alloc]; exact hq)
  refine ⟨?_, ?_, ?_, ?_, ?_, ?_, ?_, hs⟩
  all_goals (rw [hc _ (by simp)]; simp [go_sem])
theorem B1Q {w W : World} (q : Qt) (h : Below (w.alloc (.cells #[.slice q.lf.A q.lf.l.length q.lf.c, .int .i64 q.r.k, .int .i64 q.r.op, .int .i64 q.r.t, .int .i64 q.r.v, .string q.r.nm, .slice q.r.A q.r.ar.length q.r.c] 54)).heap.size (w.alloc (.cells #[.slice q.lf.A q.lf.l.length q.lf.c, .int .i64 q.r.k, .int .i64 q.r.op, .int .i64 q.r.t, .int .i64 q.r.v, .string q.r.nm, .slice q.r.A q.r.ar.length q.r.c] 54)) W) :
    W.cell? ⟨w.heap.size, 0, none⟩ = some (.slice q.lf.A q.lf.l.length q.lf.c) ∧ W.cell? ⟨w.heap.size, 1, none⟩ = some (.int .i64 q.r.k) ∧ W.cell? ⟨w.heap.size, 2, none⟩ = some (.int .i64 q.r.op) ∧ W.cell? ⟨w.heap.size, 3, none⟩ = some (.int .i64 q.r.t) ∧ W.cell? ⟨w.heap.size, 4, none⟩ = some (.int .i64 q.r.v) ∧ W.cell? ⟨w.heap.size, 5, none⟩ = some (.string q.r.nm) ∧ W.cell? ⟨w.heap.size, 6, none⟩ = some (.slice q.r.A q.r.ar.length q.r.c) ∧ w.heap.size < W.heap.size := by
  have hs := h.size
  rw [World.size_alloc] at hs
  have hc : ∀ q : Addr, q.block < w.heap.size + 1 → W.cell? q = _ := fun q hq => h.cell (by rw [World.size_alloc]; exact hq)
  refine ⟨?_, ?_, ?_, ?_, ?_, ?_, ?_, hs⟩
  all_goals (rw [hc _ (by simp)]; simp [go_sem])
theorem B2Q {w W : World} (E : Rw va.En) (q : Qt) (h : Below ((w.alloc (.cells #[.slice E.A E.l.length E.c] 103)).alloc (.cells #[.slice q.lf.A q.lf.l.length q.lf.c, .int .i64 q.r.k, .int .i64 q.r.op, .int .i64 q.r.t, .int .i64 q.r.v, .string q.r.nm, .slice q.r.A q.r.ar.length q.r.c] 54)).heap.size ((w.alloc (.cells #[.slice E.A E.l.length E.c] 103)).alloc (.cells #[.slice q.lf.A q.lf.l.length q.lf.c, .int .i64 q.r.k, .int .i64 q.r.op, .int .i64 q.r.t, .int .i64 q.r.v, .string q.r.nm, .slice q.r.A q.r.ar.length q.r.c] 54)) W) :
    W.cell? ⟨w.heap.size, 0, none⟩ = some (.slice E.A E.l.length E.c) ∧ W.cell? ⟨w.heap.size + 1, 0, none⟩ = some (.slice q.lf.A q.lf.l.length q.lf.c) ∧ W.cell? ⟨w.heap.size + 1, 1, none⟩ = some (.int .i64 q.r.k) ∧ W.cell? ⟨w.heap.size + 1, 2, none⟩ = some (.int .i64 q.r.op) ∧ W.cell? ⟨w.heap.size + 1, 3, none⟩ = some (.int .i64 q.r.t) ∧ W.cell? ⟨w.heap.size + 1, 4, none⟩ = some (.int .i64 q.r.v) ∧ W.cell? ⟨w.heap.size + 1, 5, none⟩ = some (.string q.r.nm) ∧ W.cell? ⟨w.heap.size + 1, 6, none⟩ = some (.slice q.r.A q.r.ar.length q.r.c) ∧ w.heap.size + 1 < W.heap.size := by
  have hs := h.size
  rw [World.size_alloc, World.size_alloc] at hs
  have hc : ∀ q : Addr, q.block < w.heap.size + 2 → W.cell? q = _ := fun q hq => h.cell (by rw [World.size_alloc, World.size_alloc]; exact hq)
  refine ⟨?_, ?_, ?_, ?_, ?_, ?_, ?_, ?_, hs⟩
  all_goals (rw [hc _ (by simp)]; simp [go_sem])
theorem B1T {w W : World} (t : Tt) (h : Below (w.alloc (.cells #[.int .i64 t.cd.k, .int .i64 t.cd.op, .int .i64 t.cd.t, .int .i64 t.cd.v, .string t.cd.nm, .slice t.cd.A t.cd.ar.length t.cd.c, .int .i64 t.to, .bool t.re] 160)).heap.size (w.alloc (.cells #[.int .i64 t.cd.k, .int .i64 t.cd.op, .int .i64 t.cd.t, .int .i64 t.cd.v, .string t.cd.nm, .slice t.cd.A t.cd.ar.length t.cd.c, .int .i64 t.to, .bool t.re] 160)) W) :
    W.cell? ⟨w.heap.size, 0, none⟩ = some (.int .i64 t.cd.k) ∧ W.cell? ⟨w.heap.size, 1, none⟩ = some (.int .i64 t.cd.op) ∧ W.cell? ⟨w.heap.size, 2, none⟩ = some (.int .i64 t.cd.t) ∧ W.cell? ⟨w.heap.size, 3, none⟩ = some (.int .i64 t.cd.v) ∧ W.cell? ⟨w.heap.size, 4, none⟩ = some (.string t.cd.nm) ∧ W.cell? ⟨w.heap.size, 5, none⟩ = some (.slice t.cd.A t.cd.ar.length t.cd.c) ∧ W.cell? ⟨w.heap.size, 6, none⟩ = some (.int .i64 t.to) ∧ W.cell? ⟨w.heap.size, 7, none⟩ = some (.bool t.re) ∧ w.heap.size < W.heap.size := by
  have hs := h.size
  rw [World.size_alloc] at hs
  have hc : ∀ q : Addr, q.block < w.heap.size + 1 → W.cell? q = _ := fun q hq => h.cell (by rw [World.size_alloc]; exact hq)
  refine ⟨?_, ?_, ?_, ?_, ?_, ?_, ?_, ?_, hs⟩
  all_goals (rw [hc _ (by simp)]; simp [go_sem])
theorem B1S {w W : World} (s : St) (h : Below (w.alloc (.cells #[.string s.nm, .slice s.lc.A s.lc.l.length s.lc.c, .slice s.qs.A s.qs.l.length s.qs.c, .slice s.au.A s.au.l.length s.au.c, .slice s.un.A s.un.l.length s.un.c, .slice s.ut.A s.ut.l.length s.ut.c] 95)).heap.size (w.alloc (.cells #[.string s.nm, .slice s.lc.A s.lc.l.length s.lc.c, .slice s.qs.A s.qs.l.length s.qs.c, .slice s.au.A s.au.l.length s.au.c, .slice s.un.A s.un.l.length s.un.c, .slice s.ut.A s.ut.l.length s.ut.c] 95)) W) :
    W.cell? ⟨w.heap.size, 0, none⟩ = some (.string s.nm) ∧ W.cell? ⟨w.heap.size, 1, none⟩ = some (.slice s.lc.A s.lc.l.length s.lc.c) ∧ W.cell? ⟨w.heap.size, 2, none⟩ = some (.slice s.qs.A s.qs.l.length s.qs.c) ∧ W.cell? ⟨w.heap.size, 3, none⟩ = some (.slice s.au.A s.au.l.length s.au.c) ∧ W.cell? ⟨w.heap.size, 4, none⟩ = some (.slice s.un.A s.un.l.length s.un.c) ∧ W.cell? ⟨w.heap.size, 5, none⟩ = some (.slice s.ut.A s.ut.l.length s.ut.c) ∧ w.heap.size < W.heap.size := by
  have hs := h.size
  rw [World.size_alloc] at hs
  have hc : ∀ q : Addr, q.block < w.heap.size + 1 → W.cell? q = _ := fun q hq => h.cell (by rw [World.size_alloc]; exact hq)
  refine ⟨?_, ?_, ?_, ?_, ?_, ?_, hs⟩
  all_goals (rw [hc _ (by simp)]; simp [go_sem])
theorem B1A {w W : World} (a : Rw St) (h : Below (w.alloc (.cells #[.slice a.A a.l.length a.c] 92)).heap.size (w.alloc (.cells #[.slice a.A a.l.length a.c] 92)) W) :
    W.cell? ⟨w.heap.size, 0, none⟩ = some (.slice a.A a.l.length a.c) ∧ w.heap.size < W.heap.size := by
  have hs := h.size
  rw [World.size_alloc] at hs
  have hc : ∀ q : Addr, q.block < w.heap.size + 1 → W.cell? q = _ := fun q hq => h.cell (by rw [World.size_alloc]; exact hq)
  refine ⟨?_, hs⟩
  all_goals (rw [hc _ (by simp)]; simp [go_sem])
theorem B1N {w W : World} (n : Nt) (h : Below (w.alloc (.cells #[.string n.nm, .slice n.ins.A n.ins.l.length n.ins.c, .slice n.outs.A n.outs.l.length n.outs.c, .slice n.locs.A n.locs.l.length n.locs.c, .slice n.qs.A n.qs.l.length n.qs.c, .slice n.au.A n.au.l.length n.au.c, .slice n.asm.A n.asm.l.length n.asm.c, .slice n.ens.A n.ens.l.length n.ens.c] 45)).heap.size (w.alloc (.cells #[.string n.nm, .slice n.ins.A n.ins.l.length n.ins.c, .slice n.outs.A n.outs.l.length n.outs.c, .slice n.locs.A n.locs.l.length n.locs.c, .slice n.qs.A n.qs.l.length n.qs.c, .slice n.au.A n.au.l.length n.au.c, .slice n.asm.A n.asm.l.length n.asm.c, .slice n.ens.A n.ens.l.length n.ens.c] 45)) W) :
    W.cell? ⟨w.heap.size, 0, none⟩ = some (.string n.nm) ∧ W.cell? ⟨w.heap.size, 1, none⟩ = some (.slice n.ins.A n.ins.l.length n.ins.c) ∧ W.cell? ⟨w.heap.size, 2, none⟩ = some (.slice n.outs.A n.outs.l.length n.outs.c) ∧ W.cell? ⟨w.heap.size, 3, none⟩ = some (.slice n.locs.A n.locs.l.length n.locs.c) ∧ W.cell? ⟨w.heap.size, 4, none⟩ = some (.slice n.qs.A n.qs.l.length n.qs.c) ∧ W.cell? ⟨w.heap.size, 5, none⟩ = some (.slice n.au.A n.au.l.length n.au.c) ∧ W.cell? ⟨w.heap.size, 6, none⟩ = some (.slice n.asm.A n.asm.l.length n.asm.c) ∧ W.cell? ⟨w.heap.size, 7, none⟩ = some (.slice n.ens.A n.ens.l.length n.ens.c) ∧ w.heap.size < W.heap.size := by
  have hs := h.size
  rw [World.size_alloc] at hs
  have hc : ∀ q : Addr, q.block < w.heap.size + 1 → W.cell? q = _ := fun q hq => h.cell (by rw [World.size_alloc]; exact hq)
  refine ⟨?_, ?_, ?_, ?_, ?_, ?_, ?_, ?_, hs⟩
  all_goals (rw [hc _ (by simp)]; simp [go_sem])
theorem B2N {w W : World} (E : Rw va.En) (n : Nt) (h : Below ((w.alloc (.cells #[.slice E.A E.l.length E.c] 103)).alloc (.cells #[.string n.nm, .slice n.ins.A n.ins.l.length n.ins.c, .slice n.outs.A n.outs.l.length n.outs.c, .slice n.locs.A n.locs.l.length n.locs.c, .slice n.qs.A n.qs.l.length n.qs.c, .slice n.au.A n.au.l.length n.au.c, .slice n.asm.A n.asm.l.length n.asm.c, .slice n.ens.A n.ens.l.length n.ens.c] 45)).heap.size ((w.alloc (.cells #[.slice E.A E.l.length E.c] 103)).alloc (.cells #[.string n.nm, .slice n.ins.A n.ins.l.length n.ins.c, .slice n.outs.A n.outs.l.length n.outs.c, .slice n.locs.A n.locs.l.length n.locs.c, .slice n.qs.A n.qs.l.length n.qs.c, .slice n.au.A n.au.l.length n.au.c, .slice n.asm.A n.asm.l.length n.asm.c, .slice n.ens.A n.ens.l.length n.ens.c] 45)) W) :
    W.cell? ⟨w.heap.size, 0, none⟩ = some (.slice E.A E.l.length E.c) ∧ W.cell? ⟨w.heap.size + 1, 0, none⟩ = some (.string n.nm) ∧ W.cell? ⟨w.heap.size + 1, 1, none⟩ = some (.slice n.ins.A n.ins.l.length n.ins.c) ∧ W.cell? ⟨w.heap.size + 1, 2, none⟩ = some (.slice n.outs.A n.outs.l.length n.outs.c) ∧ W.cell? ⟨w.heap.size + 1, 3, none⟩ = some (.slice n.locs.A n.locs.l.length n.locs.c) ∧ W.cell? ⟨w.heap.size + 1, 4, none⟩ = some (.slice n.qs.A n.qs.l.length n.qs.c) ∧ W.cell? ⟨w.heap.size + 1, 5, none⟩ = some (.slice n.au.A n.au.l.length n.au.c) ∧ W.cell? ⟨w.heap.size + 1, 6, none⟩ = some (.slice n.asm.A n.asm.l.length n.asm.c) ∧ W.cell? ⟨w.heap.size + 1, 7, none⟩ = some (.slice n.ens.A n.ens.l.length n.ens.c) ∧ w.heap.size + 1 < W.heap.size := by
  have hs := h.size
  rw [World.size_alloc, World.size_alloc] at hs
  have hc : ∀ q : Addr, q.block < w.heap.size + 2 → W.cell? q = _ := fun q hq => h.cell (by rw [World.size_alloc, World.size_alloc]; exact hq)
  refine ⟨?_, ?_, ?_, ?_, ?_, ?_, ?_, ?_, ?_, hs⟩
  all_goals (rw [hc _ (by simp)]; simp [go_sem])
theorem B1P {w W : World} (p : Pt) (h : Below (w.alloc (.cells #[.slice p.es.A p.es.l.length p.es.c, .slice p.ns.A p.ns.l.length p.ns.c] 25)).heap.size (w.alloc (.cells #[.slice p.es.A p.es.l.length p.es.c, .slice p.ns.A p.ns.l.length p.ns.c] 25)) W) :
    W.cell? ⟨w.heap.size, 0, none⟩ = some (.slice p.es.A p.es.l.length p.es.c) ∧ W.cell? ⟨w.heap.size, 1, none⟩ = some (.slice p.ns.A p.ns.l.length p.ns.c) ∧ w.heap.size < W.heap.size := by
  have hs := h.size
  rw [World.size_alloc] at hs
  have hc : ∀ q : Addr, q.block < w.heap.size + 1 → W.cell? q = _ := fun q hq => h.cell (by rw [World.size_alloc]; exact hq)
  refine ⟨?_, ?_, hs⟩
  all_goals (rw [hc _ (by simp)]; simp [go_sem])
theorem B1E {w W : World} (e : va.En) (h : Below (w.alloc (.cells #[.string e.name, .slice e.A e.tags.length e.c] 73)).heap.size (w.alloc (.cells #[.string e.name, .slice e.A e.tags.length e.c] 73)) W) :
    W.cell? ⟨w.heap.size, 0, none⟩ = some (.string e.name) ∧ W.cell? ⟨w.heap.size, 1, none⟩ = some (.slice e.A e.tags.length e.c) ∧ w.heap.size < W.heap.size := by
  have hs := h.size
  rw [World.size_alloc] at hs
  have hc : ∀ q : Addr, q.block < w.heap.size + 1 → W.cell? q = _ := fun q hq => h.cell (by rw [World.size_alloc]; exact hq)
  refine ⟨?_, ?_, hs⟩
  all_goals (rw [hc _ (by simp)]; simp [go_sem])
theorem B1K {w W : World} (E : Rw va.En) (h : Below (w.alloc (.cells #[.slice E.A E.l.length E.c] 103)).heap.size (w.alloc (.cells #[.slice E.A E.l.length E.c] 103)) W) :
    W.cell? ⟨w.heap.size, 0, none⟩ = some (.slice E.A E.l.length E.c) ∧ w.heap.size < W.heap.size := by
  have hs := h.size
  rw [World.size_alloc] at hs
  have hc : ∀ q : Addr, q.block < w.heap.size + 1 → W.cell? q = _ := fun q hq => h.cell (by rw [World.size_alloc]; exact hq)
  refine ⟨?_, hs⟩
  all_goals (rw [hc _ (by simp)]; simp [go_sem])
end Go.Proofs.YtoimjcfdiljkjaaGreatDoor
namespace Go.Proofs.YtoimjcfdiljkjaaGreatDoor
open Go.RowKit Go.Sort
set_option maxHeartbeats 2000000 in
set_option maxRecDepth 20000 in
theorem vr_symbol (op : Int) (w : World) : Calls Tryz.prog 115 #[.int .i64 op] w (Bel (.string (tB (symS op))) w) := by
  by_cases p3 : op = 3
  · subst p3
    go_enter Tryz.func115, Tryz.ntmps115
    go_wp2
    go_ret
    exact ⟨rfl, bl⟩
  by_cases p4 : op = 4
  · subst p4
    go_enter Tryz.func115, Tryz.ntmps115
    go_wp2
    go_ret
    exact ⟨rfl, bl⟩
  by_cases p5 : op = 5
  · subst p5
    go_enter Tryz.func115, Tryz.ntmps115
    go_wp2
    go_ret
    exact ⟨rfl, bl⟩
  by_cases p6 : op = 6
  · subst p6
    go_enter Tryz.func115, Tryz.ntmps115
    go_wp2
    go_ret
    exact ⟨rfl, bl⟩
  by_cases p7 : op = 7
  · subst p7
    go_enter Tryz.func115, Tryz.ntmps115
    go_wp2
    go_ret
    exact ⟨rfl, bl⟩
  by_cases p8 : op = 8
  · subst p8
    go_enter Tryz.func115, Tryz.ntmps115
    go_wp2
    go_ret
    exact ⟨rfl, bl⟩
  by_cases p9 : op = 9
  · subst p9
    go_enter Tryz.func115, Tryz.ntmps115
    go_wp2
    go_ret
    exact ⟨rfl, bl⟩
  by_cases p10 : op = 10
  · subst p10
    go_enter Tryz.func115, Tryz.ntmps115
    go_wp2
    go_ret
    exact ⟨rfl, bl⟩
  by_cases p11 : op = 11
  · subst p11
    go_enter Tryz.func115, Tryz.ntmps115
    go_wp2
    go_ret
    exact ⟨rfl, bl⟩
  by_cases p12 : op = 12
  · subst p12
    go_enter Tryz.func115, Tryz.ntmps115
    go_wp2
    go_ret
    exact ⟨rfl, bl⟩
  by_cases p13 : op = 13
  · subst p13
    go_enter Tryz.func115, Tryz.ntmps115
    go_wp2
    go_ret
    exact ⟨rfl, bl⟩
  by_cases p14 : op = 14
  · subst p14
    go_enter Tryz.func115, Tryz.ntmps115
    go_wp2
    go_ret
    exact ⟨rfl, bl⟩
  by_cases p15 : op = 15
  · subst p15
    go_enter Tryz.func115, Tryz.ntmps115
    go_wp2
    go_ret
    exact ⟨rfl, bl⟩
  have hsy : symS op = [62, 61] := by unfold symS; rw [if_neg p3, if_neg p4, if_neg p5, if_neg p6, if_neg p7, if_neg p8, if_neg p9, if_neg p10, if_neg p11, if_neg p12, if_neg p13, if_neg p14, if_neg p15]
  rw [hsy]
  have q3 : (op == 3) = false := by simp [p3]
  have q4 : (op == 4) = false := by simp [p4]
  have q5 : (op == 5) = false := by simp [p5]
  have q6 : (op == 6) = false := by simp [p6]
  have q7 : (op == 7) = false := by simp [p7]
  have q8 : (op == 8) = false := by simp [p8]
  have q9 : (op == 9) = false := by simp [p9]
  have q10 : (op == 10) = false := by simp [p10]
  have q11 : (op == 11) = false := by simp [p11]
  have q12 : (op == 12) = false := by simp [p12]
  have q13 : (op == 13) = false := by simp [p13]
  have q14 : (op == 14) = false := by simp [p14]
  have q15 : (op == 15) = false := by simp [p15]
  clear p3 p4 p5 p6 p7 p8 p9 p10 p11 p12 p13 p14 p15 hsy
  go_enter Tryz.func115, Tryz.ntmps115
  go_wp2
  go_ret
  exact ⟨rfl, bl⟩
set_option maxHeartbeats 2000000 in
set_option maxRecDepth 20000 in
theorem vr_val (E : Rw va.En) (t v : Int) (w : World) (hE : RsE w w.heap.size E) (ht : t ≤ 9223372036854775807) : Calls Tryz.prog 72 #[.slice E.A E.l.length E.c, .int .i64 t, .int .i64 v] w (Bel (.string (tB (valS E.l t v))) w) := by
  have KT : Hid (∀ W, Below w.heap.size w W → Calls Tryz.prog 114 #[.slice E.A E.l.length E.c, .int .i64 t, .int .i64 v] W (Bel (.tuple #[.string (tB (valS E.l t v)), .int .i64 (va.textE E.l t v)]) W)) := Lib.hid fun W h => by
    have hE' := hE.blw h h.size
    have hl := hE'.2.1.1
    unfold maxLen at hl
    have := va.rtext_any E.A E.c E.l t v W hE'.1 (by omega) ht
    unfold valS
    rwa [tB_bsT]
  generalize valS E.l t v = s at *
  generalize va.textE E.l t v = r at *
  clear hE ht
  go_enter Tryz.func72, Tryz.ntmps72
  go_wp2_with (go_at_call 114; (with_reducible refine (KT.out _ ?_).mono ?_); (exact bl); rintro e w1 ⟨rfl, hb1⟩)
  go_ret
  exact ⟨rfl, bl⟩
theorem join_take {ts : List (List UInt8)} {sep : List UInt8} {k : Nat} {x : List UInt8} (h : ts[k]? = some x) : Lib.join (ts.take (k + 1)) sep = (if 0 < k then Lib.join (ts.take k) sep ++ sep else Lib.join (ts.take k) sep) ++ x := by
  cases ts with
  | nil => simp at h
  | cons a r =>
    cases k with
    | zero =>
      simp only [List.getElem?_cons_zero, Option.some.injEq] at h
      subst h
      simp [Lib.join_one, Lib.join_nil]
    | succ k =>
      rw [if_pos (by omega), List.take_succ_cons, List.take_succ_cons, Lib.join_cons, Lib.join_cons, Lib.joinTail_take_succ _ _ k x (by simpa using h)]
      simp [List.append_assoc]
theorem join_take_le (ts : List (List UInt8)) (sep : List UInt8) (k : Nat) : (Lib.join (ts.take k) sep).length ≤ (Lib.join ts sep).length := by
  cases ts with
  | nil => simp
  | cons a r =>
    cases k with
    | zero => simp [Lib.join_nil]
    | succ k =>
      rw [List.take_succ_cons, Lib.join_cons, Lib.join_cons, List.length_append, List.length_append]
      have := Lib.joinTail_take_le sep r k
      omega
set_option maxHeartbeats 2000000 in
set_option maxRecDepth 20000 in
theorem vr_list (r : Rw ByteArray) (sep : ByteArray) (w : World) (hR : RdR w w.heap.size 1 BC r) (h : (Lib.join (r.l.map bsT) (bsT sep)).length ≤ 140737488355328) :
    Calls Tryz.prog 29 #[.slice r.A r.l.length r.c, .string sep] w (Bel (.string (tB (Lib.join (r.l.map bsT) (bsT sep)))) w) := by
  have HR := Lib.hid hR
  have h9 := hR.len
  unfold maxLen at h9
  have HJ : Hid (∀ k y, r.l[k]? = some y → Lib.join ((r.l.map bsT).take (k + 1)) (bsT sep) = (if 0 < k then Lib.join ((r.l.map bsT).take k) (bsT sep) ++ bsT sep else Lib.join ((r.l.map bsT).take k) (bsT sep)) ++ bsT y ∧ (Lib.join ((r.l.map bsT).take (k + 1)) (bsT sep)).length ≤ 140737488355328) := Lib.hid fun k y hy =>
    ⟨join_take (by rw [List.getElem?_map, hy]; rfl), Nat.le_trans (join_take_le _ _ _) h⟩
  obtain ⟨F, hF⟩ : ∃ F : Nat → List UInt8, F = fun k => Lib.join ((r.l.map bsT).take k) (bsT sep) := ⟨_, rfl⟩
  have hF0 : F 0 = [] := by rw [hF]; simp [Lib.join_nil]
  have hFl : F r.l.length = Lib.join (r.l.map bsT) (bsT sep) := by rw [hF]; simp only; rw [List.take_of_length_le (by simp)]
  have HF : Hid (∀ k y, r.l[k]? = some y → F (k + 1) = (if 0 < k then F k ++ bsT sep else F k) ++ bsT y ∧ (F (k + 1)).length ≤ 140737488355328) := Lib.hid (by rw [hF]; exact HJ.out)
  rw [← hFl]
  have HF0 := Lib.hid hF0
  clear hR HJ hF hFl hF0 h
  go_enter Tryz.func29, Tryz.ntmps29
  go_wp2
  go_loopw [5, 6] (fun s i wr => ∃ k : Nat, k ≤ r.l.length ∧ i = .int .i64 (k : Int) ∧ s = .string (tB (F k)) ∧ Below w.heap.size w wr) (fun _ i _ => r.l.length - (intOf i).toNat)
  case atStart => exact ⟨0, by omega, rfl, by rw [HF0.out]; rfl, bl⟩
  case round =>
    obtain ⟨k, hk, rfl, rfl, hbl⟩ := hrel
    by_cases hlt : k < r.l.length
    · obtain ⟨ad, y, hA, had, hy, hm, c0⟩ := (HR.out.blw oneB_B hbl hbl.size).at_ hlt
      unfold BC at c0
      rw [Nat.mul_one] at c0
      rw [hA]
      clear hA
      obtain ⟨hj, hle⟩ := HF.out k y hy
      clear hy hm HF
      obtain ⟨s1, hs1⟩ : ∃ q, F (k + 1) = q := ⟨_, rfl⟩
      have HS1 := Lib.hid hs1
      rw [hs1] at hj hle
      clear hs1
      obtain ⟨s0, hs0⟩ : ∃ q, F k = q := ⟨_, rfl⟩
      rw [hs0] at hj ⊢
      clear hs0
      by_cases h0 : 0 < k
      · have g0 : (0 : Int) < (k : Int) := by omega
        rw [if_pos h0] at hj
        rw [hj] at hle
        obtain ⟨z1, hz1⟩ : ∃ q, (s0) ++ (bsT sep) = q := ⟨_, rfl⟩
        have lz1 := congrArg List.length hz1
        rw [List.length_append] at lz1
        obtain ⟨z2, hz2⟩ : ∃ q, (z1) ++ (bsT y) = q := ⟨_, rfl⟩
        have lz2 := congrArg List.length hz2
        rw [List.length_append] at lz2
        have heq : z2 = s0 ++ bsT sep ++ bsT y := by
          subst hz1 hz2
          rfl
        have hll : z2.length ≤ 140737488355328 := by rw [heq]; exact hle
        have kaz1 := fun w => add_tB (P := Tryz.prog) w (A := tB s0) (B := sep) rfl (tB_bsT _).symm hz1 (by (try simp only [List.length_cons, List.length_nil] at *); omega)
        have kaz2 := fun w => add_tB (P := Tryz.prog) w (A := tB z1) (B := y) rfl (tB_bsT _).symm hz2 (by (try simp only [List.length_cons, List.length_nil] at *); omega)
        have HZ := Lib.hid heq
        clear heq hll hz1 hz2 lz1 lz2
        have HN : Hid (F (k + 1) = z2) := Lib.hid (HS1.out.trans (hj.trans HZ.out.symm))
        clear hj hle HZ HS1
        go_wp2
        exact ⟨⟨k + 1, by omega, by congr 1, by rw [HN.out], bl⟩, by simp [intOf]; omega⟩
      · have g0 : (k : Int) ≤ (0 : Int) := by omega
        rw [if_neg h0] at hj
        rw [hj] at hle
        obtain ⟨z2, hz2⟩ : ∃ q, (s0) ++ (bsT y) = q := ⟨_, rfl⟩
        have lz2 := congrArg List.length hz2
        rw [List.length_append] at lz2
        have heq : z2 = s0 ++ bsT y := by
          subst hz2
          rfl
        have hll : z2.length ≤ 140737488355328 := by rw [heq]; exact hle
        have kaz2 := fun w => add_tB (P := Tryz.prog) w (A := tB s0) (B := y) rfl (tB_bsT _).symm hz2 (by (try simp only [List.length_cons, List.length_nil] at *); omega)
        have HZ := Lib.hid heq
        clear heq hll hz2 lz2
        have HN : Hid (F (k + 1) = z2) := Lib.hid (HS1.out.trans (hj.trans HZ.out.symm))
        clear hj hle HZ HS1
        go_wp2
        exact ⟨⟨k + 1, by omega, by congr 1, by rw [HN.out], bl⟩, by simp [intOf]; omega⟩
    · obtain rfl : k = r.l.length := by omega
      go_wp2
      go_ret
      exact ⟨rfl, bl⟩
set_option maxHeartbeats 2000000 in
set_option maxRecDepth 20000 in
theorem vr_line (n : Nat) (s : List UInt8) (w : World) (hn : n ≤ 140737488355328) (h : (linS n s).length ≤ 140737488355328) :
    Calls Tryz.prog 28 #[.int .i64 (n : Int), .string (tB s)] w (Bel (.string (tB (linS n s))) w) := by
  have hlf : linS n s = ((List.replicate n [32, 32]).flatten ++ s) ++ [10] := rfl
  have hl9 : ∀ k, k ≤ n → ((List.replicate k ([32, 32] : List UInt8)).flatten ++ s).length ≤ 140737488355327 := fun k hk => by
    rw [hlf, List.length_append, List.length_append, ind_len] at h
    rw [List.length_append, ind_len]
    simp only [List.length_cons, List.length_nil] at h
    omega
  obtain ⟨F, hF⟩ : ∃ F : Nat → List UInt8, F = fun k => (List.replicate k [32, 32]).flatten ++ s := ⟨_, rfl⟩
  have HF : Hid (∀ k, k + 1 ≤ n → [32, 32] ++ F k = F (k + 1) ∧ (F (k + 1)).length ≤ 140737488355327) := Lib.hid fun k hk => by
    rw [hF]
    refine ⟨?_, hl9 (k + 1) hk⟩
    simp only [List.replicate_succ, List.flatten_cons, List.append_assoc]
  have hF0 : F 0 = s := by rw [hF]; simp
  have HF0 := Lib.hid hF0
  have hz : F n ++ [10] = linS n s := by rw [hF, hlf]
  have ka := fun w => add_tB (P := Tryz.prog) w (A := tB (F n)) (B := ⟨#[10]⟩) rfl rfl hz (by have := hl9 n (Nat.le_refl _); rw [hF]; simp only [List.length_cons, List.length_nil]; omega)
  clear h hlf hl9 hF hF0
  generalize linS n s = z at *
  have KA := Lib.hid ka
  clear ka hz
  rw [← HF0.out]
  go_enter Tryz.func28, Tryz.ntmps28
  go_wp2
  go_loopw [1, 5] (fun s i wr => ∃ k : Nat, k ≤ n ∧ i = .int .i64 (k : Int) ∧ s = .string (tB (F k)) ∧ Below w.heap.size w wr) (fun _ i _ => n - (intOf i).toNat)
  case atStart => exact ⟨0, by omega, rfl, rfl, bl⟩
  case round =>
    obtain ⟨k, hk, rfl, rfl, hbl⟩ := hrel
    by_cases hlt : k < n
    · obtain ⟨hj, hle⟩ := HF.out k hlt
      obtain ⟨s0, hs0⟩ : ∃ q, F k = q := ⟨_, rfl⟩
      rw [hs0] at hj ⊢
      clear hs0
      have ka := fun w => add_tB (P := Tryz.prog) w (A := ⟨#[32, 32]⟩) (B := tB s0) rfl rfl hj (by rw [← hj, List.length_append] at hle; omega)
      clear hj hle
      go_wp2
      exact ⟨⟨k + 1, by omega, by congr 1, rfl, bl⟩, by simp [intOf]; omega⟩
    · obtain rfl : k = n := by omega
      have ka := KA.out
      generalize F k = s0 at *
      go_wp2
      go_ret
      exact ⟨rfl, bl⟩
end Go.Proofs.YtoimjcfdiljkjaaGreatDoor
namespace Go.Proofs.YtoimjcfdiljkjaaGreatDoor
open Go.RowKit Go.Sort
set_option maxHeartbeats 2000000 in
set_option maxRecDepth 20000 in
theorem vr_operand (E : Rw va.En) (x : Xt) (s : List UInt8) (w : World) (h : (opdS x s).length ≤ 140737488355328)
    (KE : Hid (∀ W, Below w.heap.size w W → Calls Tryz.prog 38 #[.slice E.A E.l.length E.c, xV x] W (Bel (.string (tB s)) W))) :
    Calls Tryz.prog 74 #[.slice E.A E.l.length E.c, xV x] w (Bel (.string (tB (opdS x s))) w) := by
  unfold opdS at h ⊢
  simp only [xV] at KE ⊢
  by_cases k2 : x.k = 2
  · have hb : bareB x = true := by simp [bareB, k2]
    rw [if_pos hb]
    have q0 : (x.k == 2) = true := by simp [k2]
    clear k2 hb h
    go_enter Tryz.func74, Tryz.ntmps74
    go_wp2_with (first | (go_at_call 38; (with_reducible refine (KE.out _ ?_).mono ?_); (exact bl); rintro e w1 ⟨rfl, hb1⟩; obtain ⟨g0, g1, g2, g3, g4, g5, _⟩ := B1X x (w := w) (W := w1) bl))
    go_ret
    exact ⟨rfl, bl⟩
  by_cases k11 : x.k = 11
  · have hb : bareB x = true := by simp [bareB, k11]
    rw [if_pos hb]
    have q0 : (x.k == 2) = false := by simp [k11]
    have q1 : (x.k == 11) = true := by simp [k11]
    clear k2 k11 hb h
    go_enter Tryz.func74, Tryz.ntmps74
    go_wp2_with (first | (go_at_call 38; (with_reducible refine (KE.out _ ?_).mono ?_); (exact bl); rintro e w1 ⟨rfl, hb1⟩; obtain ⟨g0, g1, g2, g3, g4, g5, _⟩ := B1X x (w := w) (W := w1) bl))
    go_ret
    exact ⟨rfl, bl⟩
  by_cases k10 : x.k = 10
  · have hb : bareB x = true := by simp [bareB, k10]
    rw [if_pos hb]
    have q0 : (x.k == 2) = false := by simp [k10]
    have q1 : (x.k == 11) = false := by simp [k10]
    have q2 : (x.k == 10) = true := by simp [k10]
    clear k2 k11 k10 hb h
    go_enter Tryz.func74, Tryz.ntmps74
    go_wp2_with (first | (go_at_call 38; (with_reducible refine (KE.out _ ?_).mono ?_); (exact bl); rintro e w1 ⟨rfl, hb1⟩; obtain ⟨g0, g1, g2, g3, g4, g5, _⟩ := B1X x (w := w) (W := w1) bl))
    go_ret
    exact ⟨rfl, bl⟩
  have q0 : (x.k == 2) = false := by simp [k2]
  have q1 : (x.k == 11) = false := by simp [k11]
  have q2 : (x.k == 10) = false := by simp [k10]
  by_cases k1 : x.k = 1
  · have q3 : (x.k == 1) = true := by simp [k1]
    by_cases t2 : x.t = 2
    · have q4 : (x.t != 2) = false := by simp [t2]
      by_cases v0 : 0 ≤ x.v
      · have hb : bareB x = true := by simp [bareB, k1, v0]
        rw [if_pos hb]
        clear k1 k2 k11 k10 t2 hb h
        go_enter Tryz.func74, Tryz.ntmps74
        go_wp2_with (first | (go_at_call 38; (with_reducible refine (KE.out _ ?_).mono ?_); (exact bl); rintro e w1 ⟨rfl, hb1⟩; obtain ⟨g0, g1, g2, g3, g4, g5, _⟩ := B1X x (w := w) (W := w1) bl))
        go_ret
        exact ⟨rfl, bl⟩
      · have hb : bareB x = false := by simp [bareB, k1, t2]; omega
        have q5 : x.v < 0 := by omega
        rw [if_neg (by rw [hb]; decide)] at h ⊢
        obtain ⟨z1, hz1⟩ : ∃ q, ([40]) ++ (s) = q := ⟨_, rfl⟩
        have lz1 := congrArg List.length hz1
        rw [List.length_append] at lz1
        obtain ⟨z2, hz2⟩ : ∃ q, (z1) ++ ([41]) = q := ⟨_, rfl⟩
        have lz2 := congrArg List.length hz2
        rw [List.length_append] at lz2
        have heq : z2 = brS s := by
          subst hz1 hz2
          rfl
        have hll : z2.length ≤ 140737488355328 := by rw [heq]; exact h
        have kaz1 := fun w => add_tB (P := Tryz.prog) w (A := ⟨#[40]⟩) (B := tB s) rfl rfl hz1 (by (try simp only [List.length_cons, List.length_nil] at *); omega)
        have kaz2 := fun w => add_tB (P := Tryz.prog) w (A := tB z1) (B := ⟨#[41]⟩) rfl rfl hz2 (by (try simp only [List.length_cons, List.length_nil] at *); omega)
        have HZ := Lib.hid heq
        clear heq hll hz1 hz2 lz1 lz2
        rw [← HZ.out]
        clear HZ h
        clear k1 k2 k11 k10 t2 hb v0
        go_enter Tryz.func74, Tryz.ntmps74
        go_wp2_with (first | (go_at_call 38; (with_reducible refine (KE.out _ ?_).mono ?_); (exact bl); rintro e w1 ⟨rfl, hb1⟩; obtain ⟨g0, g1, g2, g3, g4, g5, _⟩ := B1X x (w := w) (W := w1) bl))
        go_ret
        exact ⟨rfl, bl⟩
    · have hb : bareB x = true := by simp [bareB, k1, t2]
      rw [if_pos hb]
      have q4 : (x.t != 2) = true := by simp [t2]
      clear k1 k2 k11 k10 t2 hb h
      go_enter Tryz.func74, Tryz.ntmps74
      go_wp2_with (first | (go_at_call 38; (with_reducible refine (KE.out _ ?_).mono ?_); (exact bl); rintro e w1 ⟨rfl, hb1⟩; obtain ⟨g0, g1, g2, g3, g4, g5, _⟩ := B1X x (w := w) (W := w1) bl))
      go_ret
      exact ⟨rfl, bl⟩
  · have hb : bareB x = false := by simp [bareB, k1, k2, k10, k11]
    have q3 : (x.k == 1) = false := by simp [k1]
    rw [if_neg (by rw [hb]; decide)] at h ⊢
    obtain ⟨z1, hz1⟩ : ∃ q, ([40]) ++ (s) = q := ⟨_, rfl⟩
    have lz1 := congrArg List.length hz1
    rw [List.length_append] at lz1
    obtain ⟨z2, hz2⟩ : ∃ q, (z1) ++ ([41]) = q := ⟨_, rfl⟩
    have lz2 := congrArg List.length hz2
    rw [List.length_append] at lz2
    have heq : z2 = brS s := by
      subst hz1 hz2
      rfl
    have hll : z2.length ≤ 140737488355328 := by rw [heq]; exact h
    have kaz1 := fun w => add_tB (P := Tryz.prog) w (A := ⟨#[40]⟩) (B := tB s) rfl rfl hz1 (by (try simp only [List.length_cons, List.length_nil] at *); omega)
    have kaz2 := fun w => add_tB (P := Tryz.prog) w (A := tB z1) (B := ⟨#[41]⟩) rfl rfl hz2 (by (try simp only [List.length_cons, List.length_nil] at *); omega)
    have HZ := Lib.hid heq
    clear heq hll hz1 hz2 lz1 lz2
    rw [← HZ.out]
    clear HZ h
    clear k1 k2 k11 k10 hb
    go_enter Tryz.func74, Tryz.ntmps74
    go_wp2_with (first | (go_at_call 38; (with_reducible refine (KE.out _ ?_).mono ?_); (exact bl); rintro e w1 ⟨rfl, hb1⟩; obtain ⟨g0, g1, g2, g3, g4, g5, _⟩ := B1X x (w := w) (W := w1) bl))
    go_ret
    exact ⟨rfl, bl⟩
set_option maxHeartbeats 2000000 in
set_option maxRecDepth 20000 in
theorem vr_operation (E : Rw va.En) (x : Xt) (f : Xt → List UInt8) (w : World) (hx : RdX w w.heap.size x) (hk : x.k = 3) (hw : wf1 x)
    (KX : Hid (∀ y ∈ x.ar, ∀ W, Below w.heap.size w W → Calls Tryz.prog 38 #[.slice E.A E.l.length E.c, xV y] W (Bel (.string (tB (f y))) W))) (h : (oprS x.op x.ar (x.ar.map f)).length ≤ 140737488355328) :
    Calls Tryz.prog 73 #[.slice E.A E.l.length E.c, xV x] w (Bel (.string (tB (oprS x.op x.ar (x.ar.map f)))) w) := by
  have hw3 := hw.1 hk
  clear hw hk
  by_cases p1 : x.op = 1
  · have hl : x.ar.length = 1 := by omega
    obtain ⟨a0, h0⟩ := one_of hl
    unfold oprS at h ⊢
    rw [if_pos p1, opI_at h0] at h ⊢
    have q0 : (x.op == 1) = true := by simp [p1]
    clear hw3 p1 hl
    have KO0 : Hid (∀ W, Below w.heap.size w W → Calls Tryz.prog 74 #[.slice E.A E.l.length E.c, xV a0] W (Bel (.string (tB (opdS a0 (f a0)))) W)) := Lib.hid fun W hb => vr_operand E a0 (f a0) W (by simp only [List.length_append] at h; omega) (Lib.hid fun W' hb' => KX.out a0 (List.mem_of_getElem? h0) W' (hb.trans (hb'.mono hb.size)))
    generalize opdS a0 (f a0) = o0 at *
    obtain ⟨z1, hz1⟩ : ∃ q, ([110, 111, 116, 32]) ++ (o0) = q := ⟨_, rfl⟩
    have lz1 := congrArg List.length hz1
    rw [List.length_append] at lz1
    have heq : z1 = [110, 111, 116, 32] ++ o0 := by
      subst hz1
      rfl
    have hll : z1.length ≤ 140737488355328 := by rw [heq]; exact h
    have kaz1 := fun w => add_tB (P := Tryz.prog) w (A := ⟨#[110, 111, 116, 32]⟩) (B := tB o0) rfl rfl hz1 (by (try simp only [List.length_cons, List.length_nil] at *); omega)
    have HZ := Lib.hid heq
    clear heq hll hz1 lz1
    rw [← HZ.out]
    have hlen : x.ar.length ≤ 9223372036854775807 := by have := hx.len.1; unfold maxLen at this; exact this
    have hmx := (List.getElem?_eq_some_iff.1 h0).1
    have hi0 : (0 : Int) < (x.ar.length : Int) := by omega
    have hn0 : 0 < x.ar.length := by omega
    simp only [xV] at KO0 ⊢
    clear KX HZ h
    obtain ⟨ad0, y0, hA0, had0, hy0, _, ⟨c00, c01, c02, c03, c04, c05⟩, _⟩ := hx.at_ (i := 0) (by have := (List.getElem?_eq_some_iff.1 h0).1; omega)
    obtain rfl : y0 = a0 := Option.some.inj (hy0.symm.trans h0)
    rw [hA0]
    clear hA0 hy0
    simp [go_sem] at c00 c01 c02 c03 c04 c05
    have e00 := fun o => cell_al o c00
    have e01 := fun o => cell_al o c01
    have e02 := fun o => cell_al o c02
    have e03 := fun o => cell_al o c03
    have e04 := fun o => cell_al o c04
    have e05 := fun o => cell_al o c05
    go_enter Tryz.func73, Tryz.ntmps73
    go_wp2_with (first | (go_at_call 74; (with_reducible refine (KO0.out _ ?_).mono ?_); (exact bl); rintro e w1 ⟨rfl, hb1⟩))
    go_ret
    exact ⟨rfl, bl⟩
  by_cases p2 : x.op = 2
  · have hl : x.ar.length = 1 := by omega
    obtain ⟨a0, h0⟩ := one_of hl
    unfold oprS at h ⊢
    rw [if_neg p1, if_pos p2] at h ⊢
    have e0 : negS (x.ar.getD 0 xt0) ((x.ar.map f).getD 0 []) = negS a0 (f a0) := by
      rw [List.getD_eq_getElem?_getD, List.getD_eq_getElem?_getD, List.getElem?_map, h0]
      rfl
    rw [e0] at h ⊢
    have q0 : (x.op == 1) = false := by simp [p1]
    have q1 : (x.op == 2) = true := by simp [p2]
    clear hw3 p1 p2 e0 hl
    unfold negS at h ⊢
    by_cases kt : a0.k = 1 ∧ a0.t = 2
    · rw [if_pos kt] at h ⊢
      have q2 : (a0.k == 1) = true := by simp [kt.1]
      have q3 : (a0.t == 2) = true := by simp [kt.2]
      clear kt
      have hlen : x.ar.length ≤ 9223372036854775807 := by have := hx.len.1; unfold maxLen at this; exact this
      have hmx := (List.getElem?_eq_some_iff.1 h0).1
      have hi0 : (0 : Int) < (x.ar.length : Int) := by omega
      have hn0 : 0 < x.ar.length := by omega
      have KC : Hid (∀ W, Below w.heap.size w W → Calls Tryz.prog 38 #[.slice E.A E.l.length E.c, xV a0] W (Bel (.string (tB (f a0))) W)) := Lib.hid (KX.out a0 (List.mem_of_getElem? h0))
      generalize f a0 = s0 at *
      obtain ⟨z1, hz1⟩ : ∃ q, ([45, 40]) ++ (s0) = q := ⟨_, rfl⟩
      have lz1 := congrArg List.length hz1
      rw [List.length_append] at lz1
      obtain ⟨z2, hz2⟩ : ∃ q, (z1) ++ ([41]) = q := ⟨_, rfl⟩
      have lz2 := congrArg List.length hz2
      rw [List.length_append] at lz2
      have heq : z2 = [45] ++ brS s0 := by
        subst hz1 hz2
        rfl
      have hll : z2.length ≤ 140737488355328 := by rw [heq]; exact h
      have kaz1 := fun w => add_tB (P := Tryz.prog) w (A := ⟨#[45, 40]⟩) (B := tB s0) rfl rfl hz1 (by (try simp only [List.length_cons, List.length_nil] at *); omega)
      have kaz2 := fun w => add_tB (P := Tryz.prog) w (A := tB z1) (B := ⟨#[41]⟩) rfl rfl hz2 (by (try simp only [List.length_cons, List.length_nil] at *); omega)
      have HZ := Lib.hid heq
      clear heq hll hz1 hz2 lz1 lz2
      rw [← HZ.out]
      simp only [xV] at KC ⊢
      clear KX HZ h
      obtain ⟨ad0, y0, hA0, had0, hy0, _, ⟨c00, c01, c02, c03, c04, c05⟩, _⟩ := hx.at_ (i := 0) (by have := (List.getElem?_eq_some_iff.1 h0).1; omega)
      obtain rfl : y0 = a0 := Option.some.inj (hy0.symm.trans h0)
      rw [hA0]
      clear hA0 hy0
      simp [go_sem] at c00 c01 c02 c03 c04 c05
      have e00 := fun o => cell_al o c00
      have e01 := fun o => cell_al o c01
      have e02 := fun o => cell_al o c02
      have e03 := fun o => cell_al o c03
      have e04 := fun o => cell_al o c04
      have e05 := fun o => cell_al o c05
      go_enter Tryz.func73, Tryz.ntmps73
      go_wp2_with (go_at_call 38; (with_reducible refine (KC.out _ ?_).mono ?_); (exact bl); rintro e w1 ⟨rfl, hb1⟩)
      go_ret
      exact ⟨rfl, bl⟩
    · rw [if_neg kt] at h ⊢
      by_cases k1 : a0.k = 1
      · have q2 : (a0.k == 1) = true := by simp [k1]
        have q3 : (a0.t == 2) = false := by simp; intro e; exact kt ⟨k1, e⟩
        clear kt k1
        have hlen : x.ar.length ≤ 9223372036854775807 := by have := hx.len.1; unfold maxLen at this; exact this
        have hmx := (List.getElem?_eq_some_iff.1 h0).1
        have hi0 : (0 : Int) < (x.ar.length : Int) := by omega
        have hn0 : 0 < x.ar.length := by omega
        have KC : Hid (∀ W, Below w.heap.size w W → Calls Tryz.prog 74 #[.slice E.A E.l.length E.c, xV a0] W (Bel (.string (tB (opdS a0 (f a0)))) W)) := Lib.hid fun W hb => vr_operand E a0 (f a0) W (by simp only [List.length_append] at h; omega) (Lib.hid fun W' hb' => KX.out a0 (List.mem_of_getElem? h0) W' (hb.trans (hb'.mono hb.size)))
        generalize opdS a0 (f a0) = o0 at *
        obtain ⟨z1, hz1⟩ : ∃ q, ([45]) ++ (o0) = q := ⟨_, rfl⟩
        have lz1 := congrArg List.length hz1
        rw [List.length_append] at lz1
        have heq : z1 = [45] ++ o0 := by
          subst hz1
          rfl
        have hll : z1.length ≤ 140737488355328 := by rw [heq]; exact h
        have kaz1 := fun w => add_tB (P := Tryz.prog) w (A := ⟨#[45]⟩) (B := tB o0) rfl rfl hz1 (by (try simp only [List.length_cons, List.length_nil] at *); omega)
        have HZ := Lib.hid heq
        clear heq hll hz1 lz1
        rw [← HZ.out]
        simp only [xV] at KC ⊢
        clear KX HZ h
        obtain ⟨ad0, y0, hA0, had0, hy0, _, ⟨c00, c01, c02, c03, c04, c05⟩, _⟩ := hx.at_ (i := 0) (by have := (List.getElem?_eq_some_iff.1 h0).1; omega)
        obtain rfl : y0 = a0 := Option.some.inj (hy0.symm.trans h0)
        rw [hA0]
        clear hA0 hy0
        simp [go_sem] at c00 c01 c02 c03 c04 c05
        have e00 := fun o => cell_al o c00
        have e01 := fun o => cell_al o c01
        have e02 := fun o => cell_al o c02
        have e03 := fun o => cell_al o c03
        have e04 := fun o => cell_al o c04
        have e05 := fun o => cell_al o c05
        go_enter Tryz.func73, Tryz.ntmps73
        go_wp2_with (go_at_call 74; (with_reducible refine (KC.out _ ?_).mono ?_); (exact bl); rintro e w1 ⟨rfl, hb1⟩)
        go_ret
        exact ⟨rfl, bl⟩
      · have q2 : (a0.k == 1) = false := by simp [k1]
        clear kt k1
        have hlen : x.ar.length ≤ 9223372036854775807 := by have := hx.len.1; unfold maxLen at this; exact this
        have hmx := (List.getElem?_eq_some_iff.1 h0).1
        have hi0 : (0 : Int) < (x.ar.length : Int) := by omega
        have hn0 : 0 < x.ar.length := by omega
        have KC : Hid (∀ W, Below w.heap.size w W → Calls Tryz.prog 74 #[.slice E.A E.l.length E.c, xV a0] W (Bel (.string (tB (opdS a0 (f a0)))) W)) := Lib.hid fun W hb => vr_operand E a0 (f a0) W (by simp only [List.length_append] at h; omega) (Lib.hid fun W' hb' => KX.out a0 (List.mem_of_getElem? h0) W' (hb.trans (hb'.mono hb.size)))
        generalize opdS a0 (f a0) = o0 at *
        obtain ⟨z1, hz1⟩ : ∃ q, ([45]) ++ (o0) = q := ⟨_, rfl⟩
        have lz1 := congrArg List.length hz1
        rw [List.length_append] at lz1
        have heq : z1 = [45] ++ o0 := by
          subst hz1
          rfl
        have hll : z1.length ≤ 140737488355328 := by rw [heq]; exact h
        have kaz1 := fun w => add_tB (P := Tryz.prog) w (A := ⟨#[45]⟩) (B := tB o0) rfl rfl hz1 (by (try simp only [List.length_cons, List.length_nil] at *); omega)
        have HZ := Lib.hid heq
        clear heq hll hz1 lz1
        rw [← HZ.out]
        simp only [xV] at KC ⊢
        clear KX HZ h
        obtain ⟨ad0, y0, hA0, had0, hy0, _, ⟨c00, c01, c02, c03, c04, c05⟩, _⟩ := hx.at_ (i := 0) (by have := (List.getElem?_eq_some_iff.1 h0).1; omega)
        obtain rfl : y0 = a0 := Option.some.inj (hy0.symm.trans h0)
        rw [hA0]
        clear hA0 hy0
        simp [go_sem] at c00 c01 c02 c03 c04 c05
        have e00 := fun o => cell_al o c00
        have e01 := fun o => cell_al o c01
        have e02 := fun o => cell_al o c02
        have e03 := fun o => cell_al o c03
        have e04 := fun o => cell_al o c04
        have e05 := fun o => cell_al o c05
        go_enter Tryz.func73, Tryz.ntmps73
        go_wp2_with (go_at_call 74; (with_reducible refine (KC.out _ ?_).mono ?_); (exact bl); rintro e w1 ⟨rfl, hb1⟩)
        go_ret
        exact ⟨rfl, bl⟩
  · have hl : x.ar.length = 2 := by omega
    have h3 : 3 ≤ x.op ∧ x.op ≤ 16 := by omega
    obtain ⟨a0, h0⟩ := at_of (l := x.ar) (i := 0) (by omega)
    obtain ⟨a1, h1⟩ := at_of (l := x.ar) (i := 1) (by omega)
    unfold oprS at h ⊢
    rw [if_neg p1, if_neg p2] at h ⊢
    unfold betS at h ⊢
    rw [opI_at h0, opI_at h1] at h ⊢
    have q0 : (x.op == 1) = false := by simp [p1]
    have q1 : (x.op == 2) = false := by simp [p2]
    have KS : Hid (∀ W, Below w.heap.size w W → Calls Tryz.prog 115 #[.int .i64 x.op] W (Bel (.string (tB (symS x.op))) W)) := Lib.hid fun W _ => vr_symbol x.op W
    clear hw3 p1 p2 h3 hl
    have KO0 : Hid (∀ W, Below w.heap.size w W → Calls Tryz.prog 74 #[.slice E.A E.l.length E.c, xV a0] W (Bel (.string (tB (opdS a0 (f a0)))) W)) := Lib.hid fun W hb => vr_operand E a0 (f a0) W (by simp only [List.length_append] at h; omega) (Lib.hid fun W' hb' => KX.out a0 (List.mem_of_getElem? h0) W' (hb.trans (hb'.mono hb.size)))
    have KO1 : Hid (∀ W, Below w.heap.size w W → Calls Tryz.prog 74 #[.slice E.A E.l.length E.c, xV a1] W (Bel (.string (tB (opdS a1 (f a1)))) W)) := Lib.hid fun W hb => vr_operand E a1 (f a1) W (by simp only [List.length_append] at h; omega) (Lib.hid fun W' hb' => KX.out a1 (List.mem_of_getElem? h1) W' (hb.trans (hb'.mono hb.size)))
    generalize opdS a0 (f a0) = o0 at *
    generalize opdS a1 (f a1) = o1 at *
    generalize symS x.op = sy at *
    obtain ⟨z1, hz1⟩ : ∃ q, (o0) ++ ([32]) = q := ⟨_, rfl⟩
    have lz1 := congrArg List.length hz1
    rw [List.length_append] at lz1
    obtain ⟨z2, hz2⟩ : ∃ q, (z1) ++ (sy) = q := ⟨_, rfl⟩
    have lz2 := congrArg List.length hz2
    rw [List.length_append] at lz2
    obtain ⟨z3, hz3⟩ : ∃ q, (z2) ++ ([32]) = q := ⟨_, rfl⟩
    have lz3 := congrArg List.length hz3
    rw [List.length_append] at lz3
    obtain ⟨z4, hz4⟩ : ∃ q, (z3) ++ (o1) = q := ⟨_, rfl⟩
    have lz4 := congrArg List.length hz4
    rw [List.length_append] at lz4
    have heq : z4 = o0 ++ [32] ++ sy ++ [32] ++ o1 := by
      subst hz1 hz2 hz3 hz4
      rfl
    have hll : z4.length ≤ 140737488355328 := by rw [heq]; exact h
    have kaz1 := fun w => add_tB (P := Tryz.prog) w (A := tB o0) (B := ⟨#[32]⟩) rfl rfl hz1 (by (try simp only [List.length_cons, List.length_nil] at *); omega)
    have kaz2 := fun w => add_tB (P := Tryz.prog) w (A := tB z1) (B := tB sy) rfl rfl hz2 (by (try simp only [List.length_cons, List.length_nil] at *); omega)
    have kaz3 := fun w => add_tB (P := Tryz.prog) w (A := tB z2) (B := ⟨#[32]⟩) rfl rfl hz3 (by (try simp only [List.length_cons, List.length_nil] at *); omega)
    have kaz4 := fun w => add_tB (P := Tryz.prog) w (A := tB z3) (B := tB o1) rfl rfl hz4 (by (try simp only [List.length_cons, List.length_nil] at *); omega)
    have HZ := Lib.hid heq
    clear heq hll hz1 hz2 hz3 hz4 lz1 lz2 lz3 lz4
    rw [← HZ.out]
    have hlen : x.ar.length ≤ 9223372036854775807 := by have := hx.len.1; unfold maxLen at this; exact this
    have hmx := (List.getElem?_eq_some_iff.1 h1).1
    have hi0 : (0 : Int) < (x.ar.length : Int) := by omega
    have hi1 : (1 : Int) < (x.ar.length : Int) := by omega
    have hn0 : 0 < x.ar.length := by omega
    have hn1 : 1 < x.ar.length := by omega
    simp only [xV] at KO0 KO1 ⊢
    clear KX HZ h
    go_enter Tryz.func73, Tryz.ntmps73
    go_wp2
    obtain ⟨W0, hW0⟩ : ∃ W0, (w.alloc (.cells #[.int .i64 x.k, .int .i64 x.op, .int .i64 x.t, .int .i64 x.v, .string x.nm, .slice x.A x.ar.length x.c] 33)) = W0 := ⟨_, rfl⟩
    have hB0 : Below w.heap.size w W0 := by rw [← hW0]; exact bel_box _
    have b0 : W0.cell? ⟨w.heap.size, 0, none⟩ = some (.int .i64 x.k) := by rw [← hW0]; simp [go_sem]
    have b1 : W0.cell? ⟨w.heap.size, 1, none⟩ = some (.int .i64 x.op) := by rw [← hW0]; simp [go_sem]
    have b2 : W0.cell? ⟨w.heap.size, 2, none⟩ = some (.int .i64 x.t) := by rw [← hW0]; simp [go_sem]
    have b3 : W0.cell? ⟨w.heap.size, 3, none⟩ = some (.int .i64 x.v) := by rw [← hW0]; simp [go_sem]
    have b4 : W0.cell? ⟨w.heap.size, 4, none⟩ = some (.string x.nm) := by rw [← hW0]; simp [go_sem]
    have b5 : W0.cell? ⟨w.heap.size, 5, none⟩ = some (.slice x.A x.ar.length x.c) := by rw [← hW0]; simp [go_sem]
    have HW0 := Lib.hid hW0
    clear hW0
    rw [HW0.out]
    obtain ⟨ad0, y0, hA0, had0, hy0, _, ⟨c00, c01, c02, c03, c04, c05⟩, _⟩ := (hx.to hB0).at_ (i := 0) (by have := (List.getElem?_eq_some_iff.1 h0).1; omega)
    obtain rfl : y0 = a0 := Option.some.inj (hy0.symm.trans h0)
    obtain ⟨ad1, y1, hA1, had1, hy1, _, ⟨c10, c11, c12, c13, c14, c15⟩, _⟩ := (hx.to hB0).at_ (i := 1) (by have := (List.getElem?_eq_some_iff.1 h1).1; omega)
    obtain rfl : y1 = a1 := Option.some.inj (hy1.symm.trans h1)
    obtain rfl : ad0 = ad1 := Option.some.inj (hA0.symm.trans hA1)
    rw [hA0] at b5 ⊢
    clear hA0 hy0 hA1 hy1
    simp [go_sem] at c00 c01 c02 c03 c04 c05 c10 c11 c12 c13 c14 c15
    have q_b0 := cell_regrown b0
    have q_b1 := cell_regrown b1
    have q_b2 := cell_regrown b2
    have q_b3 := cell_regrown b3
    have q_b4 := cell_regrown b4
    have q_b5 := cell_regrown b5
    have q_c00 := cell_regrown c00
    have q_c01 := cell_regrown c01
    have q_c02 := cell_regrown c02
    have q_c03 := cell_regrown c03
    have q_c04 := cell_regrown c04
    have q_c05 := cell_regrown c05
    have q_c10 := cell_regrown c10
    have q_c11 := cell_regrown c11
    have q_c12 := cell_regrown c12
    have q_c13 := cell_regrown c13
    have q_c14 := cell_regrown c14
    have q_c15 := cell_regrown c15
    have k_0 := fun dd os => Calls.regrown_of (KO0.out (grow (redrawn W0 dd) os) (hB0.trans ((below_regrown W0 dd os).mono hB0.size)))
    have k_1 := fun dd os => Calls.regrown_of (KO1.out (grow (redrawn W0 dd) os) (hB0.trans ((below_regrown W0 dd os).mono hB0.size)))
    have k_2 := fun dd os => Calls.regrown_of (KS.out (grow (redrawn W0 dd) os) (hB0.trans ((below_regrown W0 dd os).mono hB0.size)))
    refine wp_region_quiet_below (by kernel_rfl) (by kernel_rfl) ?_
    repeat (quiet_step (first | with_reducible exact k_0 _ _ | with_reducible exact k_1 _ _ | with_reducible exact k_2 _ _))
    refine wpQuiet_nil ?_
    intro _ hw'
    obtain ⟨⟨dq, osq⟩, hw''⟩ := hw'
    subst hw''
    have hrw9 : Below W0.heap.size W0 (grow (redrawn W0 dq) osq) := below_regrown W0 dq osq
    have hw9 : Below w.heap.size w (grow (redrawn W0 dq) osq) := hB0.trans (hrw9.mono hB0.size)
    generalize grow (redrawn W0 dq) osq = w9 at hw9 hrw9 ⊢
    clear q_b0 q_b1 q_b2 q_b3 q_b4 q_b5 q_c00 q_c01 q_c02 q_c03 q_c04 q_c05 q_c10 q_c11 q_c12 q_c13 q_c14 q_c15 k_0 k_1 k_2
    go_wp2
    go_ret
    exact ⟨rfl, hw9⟩
end Go.Proofs.YtoimjcfdiljkjaaGreatDoor
namespace Go.Proofs.YtoimjcfdiljkjaaGreatDoor
open Go.RowKit Go.Sort
set_option maxHeartbeats 2000000 in
set_option maxRecDepth 20000 in
theorem vr_text1 (E : Rw va.En) (x : Xt) (f : Xt → List UInt8) (w : World) (hE : RsE w w.heap.size E) (hx : RdX w w.heap.size x) (hxt : x.t ≤ 9223372036854775807) (hl : x.ar.length ≤ 1048576) (hw : wf1 x) (h : (ndS E.l x (x.ar.map f)).length ≤ 140737488355328) (hk : x.k = 1) :
    Calls Tryz.prog 38 #[.slice E.A E.l.length E.c, xV x] w (Bel (.string (tB (ndS E.l x (x.ar.map f)))) w) := by
  unfold ndS at h ⊢
  rw [if_pos hk] at h ⊢
  have KO : Hid (∀ W, Below w.heap.size w W → Calls Tryz.prog 72 #[.slice E.A E.l.length E.c, .int .i64 x.t, .int .i64 x.v] W (Bel (.string (tB (valS E.l x.t x.v))) W)) := Lib.hid fun W hb => vr_val E x.t x.v W (hE.blw hb hb.size) hxt
  have qk0 : (x.k == 1) = true := by simp [hk]
  generalize valS E.l x.t x.v = z at *
  clear hE hx h hw hk
  simp only [xV] at KO ⊢
  go_enter Tryz.func38, Tryz.ntmps38
  go_wp2_with (go_at_call 72; (with_reducible refine (KO.out _ ?_).mono ?_); (exact bl); rintro e w1 ⟨rfl, hb1⟩)
  go_ret
  exact ⟨rfl, bl⟩
set_option maxHeartbeats 2000000 in
set_option maxRecDepth 20000 in
theorem vr_text3 (E : Rw va.En) (x : Xt) (f : Xt → List UInt8) (w : World) (hE : RsE w w.heap.size E) (hx : RdX w w.heap.size x) (hxt : x.t ≤ 9223372036854775807) (hl : x.ar.length ≤ 1048576) (hw : wf1 x)
    (KX : Hid (∀ y ∈ x.ar, ∀ W, Below w.heap.size w W → Calls Tryz.prog 38 #[.slice E.A E.l.length E.c, xV y] W (Bel (.string (tB (f y))) W))) (h : (ndS E.l x (x.ar.map f)).length ≤ 140737488355328) (hk : x.k = 3) :
    Calls Tryz.prog 38 #[.slice E.A E.l.length E.c, xV x] w (Bel (.string (tB (ndS E.l x (x.ar.map f)))) w) := by
  unfold ndS at h ⊢
  rw [if_neg (by omega), if_pos hk] at h ⊢
  have KO : Hid (∀ W, Below w.heap.size w W → Calls Tryz.prog 73 #[.slice E.A E.l.length E.c, xV x] W (Bel (.string (tB (oprS x.op x.ar (x.ar.map f)))) W)) := Lib.hid fun W hb => vr_operation E x f W (hx.to hb) hk hw (Lib.hid fun y hy W' hb' => KX.out y hy W' (hb.trans (hb'.mono hb.size))) h
  have qk0 : (x.k == 1) = false := by simp [hk]
  have qk1 : (x.k == 2) = false := by simp [hk]
  have qk2 : (x.k == 3) = true := by simp [hk]
  generalize oprS x.op x.ar (x.ar.map f) = z at *
  clear hE hx KX h hw hk
  simp only [xV] at KO ⊢
  go_enter Tryz.func38, Tryz.ntmps38
  go_wp2_with (go_at_call 73; (with_reducible refine (KO.out _ ?_).mono ?_); (exact bl); rintro e w1 ⟨rfl, hb1⟩)
  go_ret
  exact ⟨rfl, bl⟩
set_option maxHeartbeats 2000000 in
set_option maxRecDepth 20000 in
theorem vr_text6 (E : Rw va.En) (x : Xt) (f : Xt → List UInt8) (w : World) (hE : RsE w w.heap.size E) (hx : RdX w w.heap.size x) (hxt : x.t ≤ 9223372036854775807) (hl : x.ar.length ≤ 1048576) (hw : wf1 x)
    (KX : Hid (∀ y ∈ x.ar, ∀ W, Below w.heap.size w W → Calls Tryz.prog 38 #[.slice E.A E.l.length E.c, xV y] W (Bel (.string (tB (f y))) W))) (h : (ndS E.l x (x.ar.map f)).length ≤ 140737488355328) (hk : x.k = 6) :
    Calls Tryz.prog 38 #[.slice E.A E.l.length E.c, xV x] w (Bel (.string (tB (ndS E.l x (x.ar.map f)))) w) := by
  have hl2 : x.ar.length = 2 := hw.2.2.2.1 (.inl hk)
  obtain ⟨a0, h0⟩ := at_of (l := x.ar) (i := 0) (by omega)
  obtain ⟨a1, h1⟩ := at_of (l := x.ar) (i := 1) (by omega)
  unfold ndS at h ⊢
  rw [if_neg (by omega), if_neg (by omega), if_neg (by omega), if_neg (by omega), if_pos hk] at h ⊢
  unfold betS at h ⊢
  rw [opI_at h0, opI_at h1] at h ⊢
  have KO0 : Hid (∀ W, Below w.heap.size w W → Calls Tryz.prog 74 #[.slice E.A E.l.length E.c, xV a0] W (Bel (.string (tB (opdS a0 (f a0)))) W)) := Lib.hid fun W hb => vr_operand E a0 (f a0) W (by simp only [List.length_append] at h; omega) (Lib.hid fun W' hb' => KX.out a0 (List.mem_of_getElem? h0) W' (hb.trans (hb'.mono hb.size)))
  have KO1 : Hid (∀ W, Below w.heap.size w W → Calls Tryz.prog 74 #[.slice E.A E.l.length E.c, xV a1] W (Bel (.string (tB (opdS a1 (f a1)))) W)) := Lib.hid fun W hb => vr_operand E a1 (f a1) W (by simp only [List.length_append] at h; omega) (Lib.hid fun W' hb' => KX.out a1 (List.mem_of_getElem? h1) W' (hb.trans (hb'.mono hb.size)))
  have qk0 : (x.k == 1) = false := by simp [hk]
  have qk1 : (x.k == 2) = false := by simp [hk]
  have qk2 : (x.k == 3) = false := by simp [hk]
  have qk3 : (x.k == 4) = false := by simp [hk]
  have qk4 : (x.k == 5) = false := by simp [hk]
  have qk5 : (x.k == 6) = true := by simp [hk]
  generalize opdS a0 (f a0) = o0 at *
  generalize opdS a1 (f a1) = o1 at *
  obtain ⟨z1, hz1⟩ : ∃ q, (o0) ++ ([32, 45, 62, 32]) = q := ⟨_, rfl⟩
  have lz1 := congrArg List.length hz1
  rw [List.length_append] at lz1
  obtain ⟨z2, hz2⟩ : ∃ q, (z1) ++ (o1) = q := ⟨_, rfl⟩
  have lz2 := congrArg List.length hz2
  rw [List.length_append] at lz2
  have heq : z2 = o0 ++ [32] ++ [45, 62] ++ [32] ++ o1 := by
    subst hz1 hz2
    simp only [List.append_assoc, List.cons_append, List.nil_append]
  have hll : z2.length ≤ 140737488355328 := by rw [heq]; exact h
  have kaz1 := fun w => add_tB (P := Tryz.prog) w (A := tB o0) (B := ⟨#[32, 45, 62, 32]⟩) rfl rfl hz1 (by (try simp only [List.length_cons, List.length_nil] at *); omega)
  have kaz2 := fun w => add_tB (P := Tryz.prog) w (A := tB z1) (B := tB o1) rfl rfl hz2 (by (try simp only [List.length_cons, List.length_nil] at *); omega)
  have HZ := Lib.hid heq
  clear heq hll hz1 hz2 lz1 lz2
  rw [← HZ.out]
  clear hl2 hw hk
  have hlen : x.ar.length ≤ 9223372036854775807 := by have := hx.len.1; unfold maxLen at this; exact this
  have hmx := (List.getElem?_eq_some_iff.1 h1).1
  have hi0 : (0 : Int) < (x.ar.length : Int) := by omega
  have hi1 : (1 : Int) < (x.ar.length : Int) := by omega
  have hn0 : 0 < x.ar.length := by omega
  have hn1 : 1 < x.ar.length := by omega
  simp only [xV] at KO0 KO1 ⊢
  clear KX HZ h hE
  go_enter Tryz.func38, Tryz.ntmps38
  go_wp2
  obtain ⟨W0, hW0⟩ : ∃ W0, (w.alloc (.cells #[.int .i64 x.k, .int .i64 x.op, .int .i64 x.t, .int .i64 x.v, .string x.nm, .slice x.A x.ar.length x.c] 33)) = W0 := ⟨_, rfl⟩
  have hB0 : Below w.heap.size w W0 := by rw [← hW0]; exact bel_box _
  have b0 : W0.cell? ⟨w.heap.size, 0, none⟩ = some (.int .i64 x.k) := by rw [← hW0]; simp [go_sem]
  have b1 : W0.cell? ⟨w.heap.size, 1, none⟩ = some (.int .i64 x.op) := by rw [← hW0]; simp [go_sem]
  have b2 : W0.cell? ⟨w.heap.size, 2, none⟩ = some (.int .i64 x.t) := by rw [← hW0]; simp [go_sem]
  have b3 : W0.cell? ⟨w.heap.size, 3, none⟩ = some (.int .i64 x.v) := by rw [← hW0]; simp [go_sem]
  have b4 : W0.cell? ⟨w.heap.size, 4, none⟩ = some (.string x.nm) := by rw [← hW0]; simp [go_sem]
  have b5 : W0.cell? ⟨w.heap.size, 5, none⟩ = some (.slice x.A x.ar.length x.c) := by rw [← hW0]; simp [go_sem]
  have HW0 := Lib.hid hW0
  clear hW0
  rw [HW0.out]
  obtain ⟨ad0, y0, hA0, had0, hy0, _, ⟨c00, c01, c02, c03, c04, c05⟩, _⟩ := (hx.to hB0).at_ (i := 0) (by have := (List.getElem?_eq_some_iff.1 h0).1; omega)
  obtain rfl : y0 = a0 := Option.some.inj (hy0.symm.trans h0)
  obtain ⟨ad1, y1, hA1, had1, hy1, _, ⟨c10, c11, c12, c13, c14, c15⟩, _⟩ := (hx.to hB0).at_ (i := 1) (by have := (List.getElem?_eq_some_iff.1 h1).1; omega)
  obtain rfl : y1 = a1 := Option.some.inj (hy1.symm.trans h1)
  obtain rfl : ad0 = ad1 := Option.some.inj (hA0.symm.trans hA1)
  rw [hA0] at b5 ⊢
  clear hA0 hy0 hA1 hy1
  simp [go_sem] at c00 c01 c02 c03 c04 c05 c10 c11 c12 c13 c14 c15
  have q_b0 := cell_regrown b0
  have q_b1 := cell_regrown b1
  have q_b2 := cell_regrown b2
  have q_b3 := cell_regrown b3
  have q_b4 := cell_regrown b4
  have q_b5 := cell_regrown b5
  have q_c00 := cell_regrown c00
  have q_c01 := cell_regrown c01
  have q_c02 := cell_regrown c02
  have q_c03 := cell_regrown c03
  have q_c04 := cell_regrown c04
  have q_c05 := cell_regrown c05
  have q_c10 := cell_regrown c10
  have q_c11 := cell_regrown c11
  have q_c12 := cell_regrown c12
  have q_c13 := cell_regrown c13
  have q_c14 := cell_regrown c14
  have q_c15 := cell_regrown c15
  have k_0 := fun dd os => Calls.regrown_of (KO0.out (grow (redrawn W0 dd) os) (hB0.trans ((below_regrown W0 dd os).mono hB0.size)))
  have k_1 := fun dd os => Calls.regrown_of (KO1.out (grow (redrawn W0 dd) os) (hB0.trans ((below_regrown W0 dd os).mono hB0.size)))
  refine wp_region_quiet_below (by kernel_rfl) (by kernel_rfl) ?_
  repeat (quiet_step (first | with_reducible exact k_0 _ _ | with_reducible exact k_1 _ _))
  refine wpQuiet_nil ?_
  intro _ hw'
  obtain ⟨⟨dq, osq⟩, hw''⟩ := hw'
  subst hw''
  have hrw9 : Below W0.heap.size W0 (grow (redrawn W0 dq) osq) := below_regrown W0 dq osq
  have hw9 : Below w.heap.size w (grow (redrawn W0 dq) osq) := hB0.trans (hrw9.mono hB0.size)
  generalize grow (redrawn W0 dq) osq = w9 at hw9 hrw9 ⊢
  clear q_b0 q_b1 q_b2 q_b3 q_b4 q_b5 q_c00 q_c01 q_c02 q_c03 q_c04 q_c05 q_c10 q_c11 q_c12 q_c13 q_c14 q_c15 k_0 k_1
  go_wp2
  go_ret
  exact ⟨rfl, hw9⟩
set_option maxHeartbeats 2000000 in
set_option maxRecDepth 20000 in
theorem vr_text7 (E : Rw va.En) (x : Xt) (f : Xt → List UInt8) (w : World) (hE : RsE w w.heap.size E) (hx : RdX w w.heap.size x) (hxt : x.t ≤ 9223372036854775807) (hl : x.ar.length ≤ 1048576) (hw : wf1 x)
    (KX : Hid (∀ y ∈ x.ar, ∀ W, Below w.heap.size w W → Calls Tryz.prog 38 #[.slice E.A E.l.length E.c, xV y] W (Bel (.string (tB (f y))) W))) (h : (ndS E.l x (x.ar.map f)).length ≤ 140737488355328) (hk : x.k = 7) :
    Calls Tryz.prog 38 #[.slice E.A E.l.length E.c, xV x] w (Bel (.string (tB (ndS E.l x (x.ar.map f)))) w) := by
  have hl2 : x.ar.length = 2 := hw.2.2.2.1 (.inr hk)
  obtain ⟨a0, h0⟩ := at_of (l := x.ar) (i := 0) (by omega)
  obtain ⟨a1, h1⟩ := at_of (l := x.ar) (i := 1) (by omega)
  unfold ndS at h ⊢
  rw [if_neg (by omega), if_neg (by omega), if_neg (by omega), if_neg (by omega), if_neg (by omega), if_pos hk] at h ⊢
  unfold betS at h ⊢
  rw [opI_at h0, opI_at h1] at h ⊢
  have KO0 : Hid (∀ W, Below w.heap.size w W → Calls Tryz.prog 74 #[.slice E.A E.l.length E.c, xV a0] W (Bel (.string (tB (opdS a0 (f a0)))) W)) := Lib.hid fun W hb => vr_operand E a0 (f a0) W (by simp only [List.length_append] at h; omega) (Lib.hid fun W' hb' => KX.out a0 (List.mem_of_getElem? h0) W' (hb.trans (hb'.mono hb.size)))
  have KO1 : Hid (∀ W, Below w.heap.size w W → Calls Tryz.prog 74 #[.slice E.A E.l.length E.c, xV a1] W (Bel (.string (tB (opdS a1 (f a1)))) W)) := Lib.hid fun W hb => vr_operand E a1 (f a1) W (by simp only [List.length_append] at h; omega) (Lib.hid fun W' hb' => KX.out a1 (List.mem_of_getElem? h1) W' (hb.trans (hb'.mono hb.size)))
  have qk0 : (x.k == 1) = false := by simp [hk]
  have qk1 : (x.k == 2) = false := by simp [hk]
  have qk2 : (x.k == 3) = false := by simp [hk]
  have qk3 : (x.k == 4) = false := by simp [hk]
  have qk4 : (x.k == 5) = false := by simp [hk]
  have qk5 : (x.k == 6) = false := by simp [hk]
  have qk6 : (x.k == 7) = true := by simp [hk]
  generalize opdS a0 (f a0) = o0 at *
  generalize opdS a1 (f a1) = o1 at *
  obtain ⟨z1, hz1⟩ : ∃ q, (o0) ++ ([32, 102, 98, 121, 32]) = q := ⟨_, rfl⟩
  have lz1 := congrArg List.length hz1
  rw [List.length_append] at lz1
  obtain ⟨z2, hz2⟩ : ∃ q, (z1) ++ (o1) = q := ⟨_, rfl⟩
  have lz2 := congrArg List.length hz2
  rw [List.length_append] at lz2
  have heq : z2 = o0 ++ [32] ++ [102, 98, 121] ++ [32] ++ o1 := by
    subst hz1 hz2
    simp only [List.append_assoc, List.cons_append, List.nil_append]
  have hll : z2.length ≤ 140737488355328 := by rw [heq]; exact h
  have kaz1 := fun w => add_tB (P := Tryz.prog) w (A := tB o0) (B := ⟨#[32, 102, 98, 121, 32]⟩) rfl rfl hz1 (by (try simp only [List.length_cons, List.length_nil] at *); omega)
  have kaz2 := fun w => add_tB (P := Tryz.prog) w (A := tB z1) (B := tB o1) rfl rfl hz2 (by (try simp only [List.length_cons, List.length_nil] at *); omega)
  have HZ := Lib.hid heq
  clear heq hll hz1 hz2 lz1 lz2
  rw [← HZ.out]
  clear hl2 hw hk
  have hlen : x.ar.length ≤ 9223372036854775807 := by have := hx.len.1; unfold maxLen at this; exact this
  have hmx := (List.getElem?_eq_some_iff.1 h1).1
  have hi0 : (0 : Int) < (x.ar.length : Int) := by omega
  have hi1 : (1 : Int) < (x.ar.length : Int) := by omega
  have hn0 : 0 < x.ar.length := by omega
  have hn1 : 1 < x.ar.length := by omega
  simp only [xV] at KO0 KO1 ⊢
  clear KX HZ h hE
  go_enter Tryz.func38, Tryz.ntmps38
  go_wp2
  obtain ⟨W0, hW0⟩ : ∃ W0, (w.alloc (.cells #[.int .i64 x.k, .int .i64 x.op, .int .i64 x.t, .int .i64 x.v, .string x.nm, .slice x.A x.ar.length x.c] 33)) = W0 := ⟨_, rfl⟩
  have hB0 : Below w.heap.size w W0 := by rw [← hW0]; exact bel_box _
  have b0 : W0.cell? ⟨w.heap.size, 0, none⟩ = some (.int .i64 x.k) := by rw [← hW0]; simp [go_sem]
  have b1 : W0.cell? ⟨w.heap.size, 1, none⟩ = some (.int .i64 x.op) := by rw [← hW0]; simp [go_sem]
  have b2 : W0.cell? ⟨w.heap.size, 2, none⟩ = some (.int .i64 x.t) := by rw [← hW0]; simp [go_sem]
  have b3 : W0.cell? ⟨w.heap.size, 3, none⟩ = some (.int .i64 x.v) := by rw [← hW0]; simp [go_sem]
  have b4 : W0.cell? ⟨w.heap.size, 4, none⟩ = some (.string x.nm) := by rw [← hW0]; simp [go_sem]
  have b5 : W0.cell? ⟨w.heap.size, 5, none⟩ = some (.slice x.A x.ar.length x.c) := by rw [← hW0]; simp [go_sem]
  have HW0 := Lib.hid hW0
  clear hW0
  rw [HW0.out]
  obtain ⟨ad0, y0, hA0, had0, hy0, _, ⟨c00, c01, c02, c03, c04, c05⟩, _⟩ := (hx.to hB0).at_ (i := 0) (by have := (List.getElem?_eq_some_iff.1 h0).1; omega)
  obtain rfl : y0 = a0 := Option.some.inj (hy0.symm.trans h0)
  obtain ⟨ad1, y1, hA1, had1, hy1, _, ⟨c10, c11, c12, c13, c14, c15⟩, _⟩ := (hx.to hB0).at_ (i := 1) (by have := (List.getElem?_eq_some_iff.1 h1).1; omega)
  obtain rfl : y1 = a1 := Option.some.inj (hy1.symm.trans h1)
  obtain rfl : ad0 = ad1 := Option.some.inj (hA0.symm.trans hA1)
  rw [hA0] at b5 ⊢
  clear hA0 hy0 hA1 hy1
  simp [go_sem] at c00 c01 c02 c03 c04 c05 c10 c11 c12 c13 c14 c15
  have q_b0 := cell_regrown b0
  have q_b1 := cell_regrown b1
  have q_b2 := cell_regrown b2
  have q_b3 := cell_regrown b3
  have q_b4 := cell_regrown b4
  have q_b5 := cell_regrown b5
  have q_c00 := cell_regrown c00
  have q_c01 := cell_regrown c01
  have q_c02 := cell_regrown c02
  have q_c03 := cell_regrown c03
  have q_c04 := cell_regrown c04
  have q_c05 := cell_regrown c05
  have q_c10 := cell_regrown c10
  have q_c11 := cell_regrown c11
  have q_c12 := cell_regrown c12
  have q_c13 := cell_regrown c13
  have q_c14 := cell_regrown c14
  have q_c15 := cell_regrown c15
  have k_0 := fun dd os => Calls.regrown_of (KO0.out (grow (redrawn W0 dd) os) (hB0.trans ((below_regrown W0 dd os).mono hB0.size)))
  have k_1 := fun dd os => Calls.regrown_of (KO1.out (grow (redrawn W0 dd) os) (hB0.trans ((below_regrown W0 dd os).mono hB0.size)))
  refine wp_region_quiet_below (by kernel_rfl) (by kernel_rfl) ?_
  repeat (quiet_step (first | with_reducible exact k_0 _ _ | with_reducible exact k_1 _ _))
  refine wpQuiet_nil ?_
  intro _ hw'
  obtain ⟨⟨dq, osq⟩, hw''⟩ := hw'
  subst hw''
  have hrw9 : Below W0.heap.size W0 (grow (redrawn W0 dq) osq) := below_regrown W0 dq osq
  have hw9 : Below w.heap.size w (grow (redrawn W0 dq) osq) := hB0.trans (hrw9.mono hB0.size)
  generalize grow (redrawn W0 dq) osq = w9 at hw9 hrw9 ⊢
  clear q_b0 q_b1 q_b2 q_b3 q_b4 q_b5 q_c00 q_c01 q_c02 q_c03 q_c04 q_c05 q_c10 q_c11 q_c12 q_c13 q_c14 q_c15 k_0 k_1
  go_wp2
  go_ret
  exact ⟨rfl, hw9⟩
set_option maxHeartbeats 2000000 in
set_option maxRecDepth 20000 in
theorem vr_text5 (E : Rw va.En) (x : Xt) (f : Xt → List UInt8) (w : World) (hE : RsE w w.heap.size E) (hx : RdX w w.heap.size x) (hxt : x.t ≤ 9223372036854775807) (hl : x.ar.length ≤ 1048576) (hw : wf1 x)
    (KX : Hid (∀ y ∈ x.ar, ∀ W, Below w.heap.size w W → Calls Tryz.prog 38 #[.slice E.A E.l.length E.c, xV y] W (Bel (.string (tB (f y))) W))) (h : (ndS E.l x (x.ar.map f)).length ≤ 140737488355328) (hk : x.k = 5) :
    Calls Tryz.prog 38 #[.slice E.A E.l.length E.c, xV x] w (Bel (.string (tB (ndS E.l x (x.ar.map f)))) w) := by
  have hl2 : x.ar.length = 1 := hw.2.2.1 (.inl hk)
  obtain ⟨a0, h0⟩ := at_of (l := x.ar) (i := 0) (by omega)
  unfold ndS at h ⊢
  rw [if_neg (by omega), if_neg (by omega), if_neg (by omega), if_pos hk] at h ⊢
  rw [opI_at h0] at h ⊢
  have KO0 : Hid (∀ W, Below w.heap.size w W → Calls Tryz.prog 74 #[.slice E.A E.l.length E.c, xV a0] W (Bel (.string (tB (opdS a0 (f a0)))) W)) := Lib.hid fun W hb => vr_operand E a0 (f a0) W (by simp only [List.length_append] at h; omega) (Lib.hid fun W' hb' => KX.out a0 (List.mem_of_getElem? h0) W' (hb.trans (hb'.mono hb.size)))
  have qk0 : (x.k == 1) = false := by simp [hk]
  have qk1 : (x.k == 2) = false := by simp [hk]
  have qk2 : (x.k == 3) = false := by simp [hk]
  have qk3 : (x.k == 4) = false := by simp [hk]
  have qk4 : (x.k == 5) = true := by simp [hk]
  generalize opdS a0 (f a0) = o0 at *
  obtain ⟨z1, hz1⟩ : ∃ q, ([112, 114, 101, 32]) ++ (o0) = q := ⟨_, rfl⟩
  have lz1 := congrArg List.length hz1
  rw [List.length_append] at lz1
  have heq : z1 = [112, 114, 101, 32] ++ o0 := by
    subst hz1
    rfl
  have hll : z1.length ≤ 140737488355328 := by rw [heq]; exact h
  have kaz1 := fun w => add_tB (P := Tryz.prog) w (A := ⟨#[112, 114, 101, 32]⟩) (B := tB o0) rfl rfl hz1 (by (try simp only [List.length_cons, List.length_nil] at *); omega)
  have HZ := Lib.hid heq
  clear heq hll hz1 lz1
  rw [← HZ.out]
  clear hl2 hw hk
  have hlen : x.ar.length ≤ 9223372036854775807 := by have := hx.len.1; unfold maxLen at this; exact this
  have hmx := (List.getElem?_eq_some_iff.1 h0).1
  have hi0 : (0 : Int) < (x.ar.length : Int) := by omega
  have hn0 : 0 < x.ar.length := by omega
  simp only [xV] at KO0 ⊢
  clear KX HZ h hE
  obtain ⟨ad0, y0, hA0, had0, hy0, _, ⟨c00, c01, c02, c03, c04, c05⟩, _⟩ := hx.at_ (i := 0) (by have := (List.getElem?_eq_some_iff.1 h0).1; omega)
  obtain rfl : y0 = a0 := Option.some.inj (hy0.symm.trans h0)
  rw [hA0]
  clear hA0 hy0
  simp [go_sem] at c00 c01 c02 c03 c04 c05
  have e00 := fun o => cell_al o c00
  have e01 := fun o => cell_al o c01
  have e02 := fun o => cell_al o c02
  have e03 := fun o => cell_al o c03
  have e04 := fun o => cell_al o c04
  have e05 := fun o => cell_al o c05
  go_enter Tryz.func38, Tryz.ntmps38
  go_wp2_with (first | (go_at_call 74; (with_reducible refine (KO0.out _ ?_).mono ?_); (exact bl); rintro e w1 ⟨rfl, hb1⟩))
  go_ret
  exact ⟨rfl, bl⟩
set_option maxHeartbeats 2000000 in
set_option maxRecDepth 20000 in
theorem vr_text4 (E : Rw va.En) (x : Xt) (f : Xt → List UInt8) (w : World) (hE : RsE w w.heap.size E) (hx : RdX w w.heap.size x) (hxt : x.t ≤ 9223372036854775807) (hl : x.ar.length ≤ 1048576) (hw : wf1 x)
    (KX : Hid (∀ y ∈ x.ar, ∀ W, Below w.heap.size w W → Calls Tryz.prog 38 #[.slice E.A E.l.length E.c, xV y] W (Bel (.string (tB (f y))) W))) (h : (ndS E.l x (x.ar.map f)).length ≤ 140737488355328) (hk : x.k = 4) :
    Calls Tryz.prog 38 #[.slice E.A E.l.length E.c, xV x] w (Bel (.string (tB (ndS E.l x (x.ar.map f)))) w) := by
  have hl3 : x.ar.length = 3 := hw.2.1 hk
  obtain ⟨a0, h0⟩ := at_of (l := x.ar) (i := 0) (by omega)
  obtain ⟨a1, h1⟩ := at_of (l := x.ar) (i := 1) (by omega)
  obtain ⟨a2, h2⟩ := at_of (l := x.ar) (i := 2) (by omega)
  unfold ndS at h ⊢
  rw [if_neg (by omega), if_neg (by omega), if_pos hk] at h ⊢
  rw [ts_at h0, ts_at h1, ts_at h2] at h ⊢
  have K0 := Lib.hid (KX.out a0 (List.mem_of_getElem? h0))
  have K1 := Lib.hid (KX.out a1 (List.mem_of_getElem? h1))
  have K2 := Lib.hid (KX.out a2 (List.mem_of_getElem? h2))
  have qk0 : (x.k == 1) = false := by simp [hk]
  have qk1 : (x.k == 2) = false := by simp [hk]
  have qk2 : (x.k == 3) = false := by simp [hk]
  have qk3 : (x.k == 4) = true := by simp [hk]
  generalize f a0 = s0 at *
  generalize f a1 = s1 at *
  generalize f a2 = s2 at *
  obtain ⟨z1, hz1⟩ : ∃ q, ([105, 102, 32]) ++ (s0) = q := ⟨_, rfl⟩
  have lz1 := congrArg List.length hz1
  rw [List.length_append] at lz1
  obtain ⟨z2, hz2⟩ : ∃ q, (z1) ++ ([32, 116, 104, 101, 110, 32]) = q := ⟨_, rfl⟩
  have lz2 := congrArg List.length hz2
  rw [List.length_append] at lz2
  obtain ⟨z3, hz3⟩ : ∃ q, (z2) ++ (s1) = q := ⟨_, rfl⟩
  have lz3 := congrArg List.length hz3
  rw [List.length_append] at lz3
  obtain ⟨z4, hz4⟩ : ∃ q, (z3) ++ ([32, 101, 108, 115, 101, 32]) = q := ⟨_, rfl⟩
  have lz4 := congrArg List.length hz4
  rw [List.length_append] at lz4
  obtain ⟨z5, hz5⟩ : ∃ q, (z4) ++ (s2) = q := ⟨_, rfl⟩
  have lz5 := congrArg List.length hz5
  rw [List.length_append] at lz5
  have heq : z5 = [105, 102, 32] ++ s0 ++ [32, 116, 104, 101, 110, 32] ++ s1 ++ [32, 101, 108, 115, 101, 32] ++ s2 := by
    subst hz1 hz2 hz3 hz4 hz5
    rfl
  have hll : z5.length ≤ 140737488355328 := by rw [heq]; exact h
  have kaz1 := fun w => add_tB (P := Tryz.prog) w (A := ⟨#[105, 102, 32]⟩) (B := tB s0) rfl rfl hz1 (by (try simp only [List.length_cons, List.length_nil] at *); omega)
  have kaz2 := fun w => add_tB (P := Tryz.prog) w (A := tB z1) (B := ⟨#[32, 116, 104, 101, 110, 32]⟩) rfl rfl hz2 (by (try simp only [List.length_cons, List.length_nil] at *); omega)
  have kaz3 := fun w => add_tB (P := Tryz.prog) w (A := tB z2) (B := tB s1) rfl rfl hz3 (by (try simp only [List.length_cons, List.length_nil] at *); omega)
  have kaz4 := fun w => add_tB (P := Tryz.prog) w (A := tB z3) (B := ⟨#[32, 101, 108, 115, 101, 32]⟩) rfl rfl hz4 (by (try simp only [List.length_cons, List.length_nil] at *); omega)
  have kaz5 := fun w => add_tB (P := Tryz.prog) w (A := tB z4) (B := tB s2) rfl rfl hz5 (by (try simp only [List.length_cons, List.length_nil] at *); omega)
  have HZ := Lib.hid heq
  clear heq hll hz1 hz2 hz3 hz4 hz5 lz1 lz2 lz3 lz4 lz5
  rw [← HZ.out]
  clear hl3 hw hk
  have hlen : x.ar.length ≤ 9223372036854775807 := by have := hx.len.1; unfold maxLen at this; exact this
  have hmx := (List.getElem?_eq_some_iff.1 h2).1
  have hi0 : (0 : Int) < (x.ar.length : Int) := by omega
  have hi1 : (1 : Int) < (x.ar.length : Int) := by omega
  have hi2 : (2 : Int) < (x.ar.length : Int) := by omega
  have hn0 : 0 < x.ar.length := by omega
  have hn1 : 1 < x.ar.length := by omega
  have hn2 : 2 < x.ar.length := by omega
  simp only [xV] at K0 K1 K2 ⊢
  clear KX HZ h hE
  go_enter Tryz.func38, Tryz.ntmps38
  go_wp2
  obtain ⟨W0, hW0⟩ : ∃ W0, (w.alloc (.cells #[.int .i64 x.k, .int .i64 x.op, .int .i64 x.t, .int .i64 x.v, .string x.nm, .slice x.A x.ar.length x.c] 33)) = W0 := ⟨_, rfl⟩
  have hB0 : Below w.heap.size w W0 := by rw [← hW0]; exact bel_box _
  have b0 : W0.cell? ⟨w.heap.size, 0, none⟩ = some (.int .i64 x.k) := by rw [← hW0]; simp [go_sem]
  have b1 : W0.cell? ⟨w.heap.size, 1, none⟩ = some (.int .i64 x.op) := by rw [← hW0]; simp [go_sem]
  have b2 : W0.cell? ⟨w.heap.size, 2, none⟩ = some (.int .i64 x.t) := by rw [← hW0]; simp [go_sem]
  have b3 : W0.cell? ⟨w.heap.size, 3, none⟩ = some (.int .i64 x.v) := by rw [← hW0]; simp [go_sem]
  have b4 : W0.cell? ⟨w.heap.size, 4, none⟩ = some (.string x.nm) := by rw [← hW0]; simp [go_sem]
  have b5 : W0.cell? ⟨w.heap.size, 5, none⟩ = some (.slice x.A x.ar.length x.c) := by rw [← hW0]; simp [go_sem]
  have HW0 := Lib.hid hW0
  clear hW0
  rw [HW0.out]
  obtain ⟨ad0, y0, hA0, had0, hy0, _, ⟨c00, c01, c02, c03, c04, c05⟩, _⟩ := (hx.to hB0).at_ (i := 0) (by have := (List.getElem?_eq_some_iff.1 h0).1; omega)
  obtain rfl : y0 = a0 := Option.some.inj (hy0.symm.trans h0)
  obtain ⟨ad1, y1, hA1, had1, hy1, _, ⟨c10, c11, c12, c13, c14, c15⟩, _⟩ := (hx.to hB0).at_ (i := 1) (by have := (List.getElem?_eq_some_iff.1 h1).1; omega)
  obtain rfl : y1 = a1 := Option.some.inj (hy1.symm.trans h1)
  obtain ⟨ad2, y2, hA2, had2, hy2, _, ⟨c20, c21, c22, c23, c24, c25⟩, _⟩ := (hx.to hB0).at_ (i := 2) (by have := (List.getElem?_eq_some_iff.1 h2).1; omega)
  obtain rfl : y2 = a2 := Option.some.inj (hy2.symm.trans h2)
  obtain rfl : ad0 = ad1 := Option.some.inj (hA0.symm.trans hA1)
  obtain rfl : ad0 = ad2 := Option.some.inj (hA0.symm.trans hA2)
  rw [hA0] at b5 ⊢
  clear hA0 hy0 hA1 hy1 hA2 hy2
  simp [go_sem] at c00 c01 c02 c03 c04 c05 c10 c11 c12 c13 c14 c15 c20 c21 c22 c23 c24 c25
  have q_b0 := cell_regrown b0
  have q_b1 := cell_regrown b1
  have q_b2 := cell_regrown b2
  have q_b3 := cell_regrown b3
  have q_b4 := cell_regrown b4
  have q_b5 := cell_regrown b5
  have q_c00 := cell_regrown c00
  have q_c01 := cell_regrown c01
  have q_c02 := cell_regrown c02
  have q_c03 := cell_regrown c03
  have q_c04 := cell_regrown c04
  have q_c05 := cell_regrown c05
  have q_c10 := cell_regrown c10
  have q_c11 := cell_regrown c11
  have q_c12 := cell_regrown c12
  have q_c13 := cell_regrown c13
  have q_c14 := cell_regrown c14
  have q_c15 := cell_regrown c15
  have q_c20 := cell_regrown c20
  have q_c21 := cell_regrown c21
  have q_c22 := cell_regrown c22
  have q_c23 := cell_regrown c23
  have q_c24 := cell_regrown c24
  have q_c25 := cell_regrown c25
  have k_0 := fun dd os => Calls.regrown_of (K0.out (grow (redrawn W0 dd) os) (hB0.trans ((below_regrown W0 dd os).mono hB0.size)))
  have k_1 := fun dd os => Calls.regrown_of (K1.out (grow (redrawn W0 dd) os) (hB0.trans ((below_regrown W0 dd os).mono hB0.size)))
  have k_2 := fun dd os => Calls.regrown_of (K2.out (grow (redrawn W0 dd) os) (hB0.trans ((below_regrown W0 dd os).mono hB0.size)))
  refine wp_region_quiet_below (by kernel_rfl) (by kernel_rfl) ?_
  repeat (quiet_step (first | with_reducible exact k_0 _ _ | with_reducible exact k_1 _ _ | with_reducible exact k_2 _ _))
  refine wpQuiet_nil ?_
  intro _ hw'
  obtain ⟨⟨dq, osq⟩, hw''⟩ := hw'
  subst hw''
  have hrw9 : Below W0.heap.size W0 (grow (redrawn W0 dq) osq) := below_regrown W0 dq osq
  have hw9 : Below w.heap.size w (grow (redrawn W0 dq) osq) := hB0.trans (hrw9.mono hB0.size)
  generalize grow (redrawn W0 dq) osq = w9 at hw9 hrw9 ⊢
  clear q_b0 q_b1 q_b2 q_b3 q_b4 q_b5 q_c00 q_c01 q_c02 q_c03 q_c04 q_c05 q_c10 q_c11 q_c12 q_c13 q_c14 q_c15 q_c20 q_c21 q_c22 q_c23 q_c24 q_c25 k_0 k_1 k_2
  go_wp2
  go_ret
  exact ⟨rfl, hw9⟩
set_option maxHeartbeats 2000000 in
set_option maxRecDepth 20000 in
theorem vr_text11 (E : Rw va.En) (x : Xt) (f : Xt → List UInt8) (w : World) (hE : RsE w w.heap.size E) (hx : RdX w w.heap.size x) (hxt : x.t ≤ 9223372036854775807) (hl : x.ar.length ≤ 1048576) (hw : wf1 x) (h : (ndS E.l x (x.ar.map f)).length ≤ 140737488355328) (hk : x.k = 11) :
    Calls Tryz.prog 38 #[.slice E.A E.l.length E.c, xV x] w (Bel (.string (tB (ndS E.l x (x.ar.map f)))) w) := by
  unfold ndS at h ⊢
  rw [if_neg (by omega), if_neg (by omega), if_neg (by omega), if_neg (by omega), if_neg (by omega), if_neg (by omega), if_neg (by omega), if_neg (by omega), if_neg (by omega), if_pos hk] at h ⊢
  have qk0 : (x.k == 1) = false := by simp [hk]
  have qk1 : (x.k == 2) = false := by simp [hk]
  have qk2 : (x.k == 3) = false := by simp [hk]
  have qk3 : (x.k == 4) = false := by simp [hk]
  have qk4 : (x.k == 5) = false := by simp [hk]
  have qk5 : (x.k == 6) = false := by simp [hk]
  have qk6 : (x.k == 7) = false := by simp [hk]
  have qk7 : (x.k == 8) = false := by simp [hk]
  have qk8 : (x.k == 9) = false := by simp [hk]
  have qk9 : (x.k == 10) = false := by simp [hk]
  obtain ⟨z1, hz1⟩ : ∃ q, ([39]) ++ (bsT x.nm) = q := ⟨_, rfl⟩
  have lz1 := congrArg List.length hz1
  rw [List.length_append] at lz1
  obtain ⟨z2, hz2⟩ : ∃ q, (z1) ++ ([39]) = q := ⟨_, rfl⟩
  have lz2 := congrArg List.length hz2
  rw [List.length_append] at lz2
  have heq : z2 = [39] ++ bsT x.nm ++ [39] := by
    subst hz1 hz2
    rfl
  have hll : z2.length ≤ 140737488355328 := by rw [heq]; exact h
  have kaz1 := fun w => add_tB (P := Tryz.prog) w (A := ⟨#[39]⟩) (B := x.nm) rfl (tB_bsT _).symm hz1 (by (try simp only [List.length_cons, List.length_nil] at *); omega)
  have kaz2 := fun w => add_tB (P := Tryz.prog) w (A := tB z1) (B := ⟨#[39]⟩) rfl rfl hz2 (by (try simp only [List.length_cons, List.length_nil] at *); omega)
  have HZ := Lib.hid heq
  clear heq hll hz1 hz2 lz1 lz2
  rw [← HZ.out]
  clear HZ hE hx h hw hk
  simp only [xV]
  go_enter Tryz.func38, Tryz.ntmps38
  go_wp2
  go_ret
  exact ⟨rfl, bl⟩
set_option maxHeartbeats 2000000 in
set_option maxRecDepth 20000 in
theorem vr_text2 (E : Rw va.En) (x : Xt) (f : Xt → List UInt8) (w : World) (hE : RsE w w.heap.size E) (hx : RdX w w.heap.size x) (hxt : x.t ≤ 9223372036854775807) (hl : x.ar.length ≤ 1048576) (hw : wf1 x) (h : (ndS E.l x (x.ar.map f)).length ≤ 140737488355328) (hk : x.k = 2) :
    Calls Tryz.prog 38 #[.slice E.A E.l.length E.c, xV x] w (Bel (.string (tB (ndS E.l x (x.ar.map f)))) w) := by
  unfold ndS
  rw [if_neg (by omega), if_neg (by omega), if_neg (by omega), if_neg (by omega), if_neg (by omega), if_neg (by omega), if_neg (by omega), if_neg (by omega), if_neg (by omega), if_neg (by omega)]
  rw [tB_bsT]
  have qk0 : (x.k == 1) = false := by simp [hk]
  have qk1 : (x.k == 2) = true := by simp [hk]
  clear hE hx h hw hk
  simp only [xV]
  go_enter Tryz.func38, Tryz.ntmps38
  go_wp2
  go_ret
  exact ⟨rfl, bl⟩
set_option maxHeartbeats 2000000 in
set_option maxRecDepth 20000 in
theorem vr_text8 (E : Rw va.En) (x : Xt) (f : Xt → List UInt8) (w : World) (hE : RsE w w.heap.size E) (hx : RdX w w.heap.size x) (hxt : x.t ≤ 9223372036854775807) (hl : x.ar.length ≤ 1048576) (hw : wf1 x)
    (KX : Hid (∀ y ∈ x.ar, ∀ W, Below w.heap.size w W → Calls Tryz.prog 38 #[.slice E.A E.l.length E.c, xV y] W (Bel (.string (tB (f y))) W))) (h : (ndS E.l x (x.ar.map f)).length ≤ 140737488355328) (hk : x.k = 8) :
    Calls Tryz.prog 38 #[.slice E.A E.l.length E.c, xV x] w (Bel (.string (tB (ndS E.l x (x.ar.map f)))) w) := by
  have hl2 : x.ar.length = 1 := hw.2.2.1 (.inr hk)
  obtain ⟨a0, h0⟩ := at_of (l := x.ar) (i := 0) (by omega)
  unfold ndS at h ⊢
  rw [if_neg (by omega), if_neg (by omega), if_neg (by omega), if_neg (by omega), if_neg (by omega), if_neg (by omega), if_pos hk] at h ⊢
  rw [opI_at h0] at h ⊢
  have KO0 : Hid (∀ W, Below w.heap.size w W → Calls Tryz.prog 74 #[.slice E.A E.l.length E.c, xV a0] W (Bel (.string (tB (opdS a0 (f a0)))) W)) := Lib.hid fun W hb => vr_operand E a0 (f a0) W (by simp only [List.length_append] at h; omega) (Lib.hid fun W' hb' => KX.out a0 (List.mem_of_getElem? h0) W' (hb.trans (hb'.mono hb.size)))
  have KS : Hid (∀ W, Below w.heap.size w W → Calls Tryz.prog 72 #[.slice E.A E.l.length E.c, .int .i64 x.t, .int .i64 x.v] W (Bel (.string (tB (valS E.l x.t x.v))) W)) := Lib.hid fun W hb => vr_val E x.t x.v W (hE.blw hb hb.size) hxt
  unfold smpS brS at h ⊢
  simp only [] at h ⊢
  have qk0 : (x.k == 1) = false := by simp [hk]
  have qk1 : (x.k == 2) = false := by simp [hk]
  have qk2 : (x.k == 3) = false := by simp [hk]
  have qk3 : (x.k == 4) = false := by simp [hk]
  have qk4 : (x.k == 5) = false := by simp [hk]
  have qk5 : (x.k == 6) = false := by simp [hk]
  have qk6 : (x.k == 7) = false := by simp [hk]
  have qk7 : (x.k == 8) = true := by simp [hk]
  generalize opdS a0 (f a0) = o0 at *
  generalize valS E.l x.t x.v = sm at *
  obtain ⟨z1, hz1⟩ : ∃ q, (o0) ++ ([32, 119, 104, 101, 110, 32]) = q := ⟨_, rfl⟩
  have lz1 := congrArg List.length hz1
  rw [List.length_append] at lz1
  obtain ⟨z2, hz2⟩ : ∃ q, (z1) ++ (sm) = q := ⟨_, rfl⟩
  have lz2 := congrArg List.length hz2
  rw [List.length_append] at lz2
  obtain ⟨z3, hz3⟩ : ∃ q, (z2) ++ ([40]) = q := ⟨_, rfl⟩
  have lz3 := congrArg List.length hz3
  rw [List.length_append] at lz3
  obtain ⟨z4, hz4⟩ : ∃ q, (z3) ++ (bsT x.nm) = q := ⟨_, rfl⟩
  have lz4 := congrArg List.length hz4
  rw [List.length_append] at lz4
  obtain ⟨z5, hz5⟩ : ∃ q, (z4) ++ ([41]) = q := ⟨_, rfl⟩
  have lz5 := congrArg List.length hz5
  rw [List.length_append] at lz5
  have heq : z5 = o0 ++ [32] ++ ([119, 104, 101, 110, 32] ++ sm ++ ([40] ++ bsT x.nm ++ [41])) := by
    subst hz1 hz2 hz3 hz4 hz5
    simp only [List.append_assoc, List.cons_append, List.nil_append]
  have hll : z5.length ≤ 140737488355328 := by rw [heq]; exact h
  have kaz1 := fun w => add_tB (P := Tryz.prog) w (A := tB o0) (B := ⟨#[32, 119, 104, 101, 110, 32]⟩) rfl rfl hz1 (by (try simp only [List.length_cons, List.length_nil] at *); omega)
  have kaz2 := fun w => add_tB (P := Tryz.prog) w (A := tB z1) (B := tB sm) rfl rfl hz2 (by (try simp only [List.length_cons, List.length_nil] at *); omega)
  have kaz3 := fun w => add_tB (P := Tryz.prog) w (A := tB z2) (B := ⟨#[40]⟩) rfl rfl hz3 (by (try simp only [List.length_cons, List.length_nil] at *); omega)
  have kaz4 := fun w => add_tB (P := Tryz.prog) w (A := tB z3) (B := x.nm) rfl (tB_bsT _).symm hz4 (by (try simp only [List.length_cons, List.length_nil] at *); omega)
  have kaz5 := fun w => add_tB (P := Tryz.prog) w (A := tB z4) (B := ⟨#[41]⟩) rfl rfl hz5 (by (try simp only [List.length_cons, List.length_nil] at *); omega)
  have HZ := Lib.hid heq
  clear heq hll hz1 hz2 hz3 hz4 hz5 lz1 lz2 lz3 lz4 lz5
  rw [← HZ.out]
  clear hl2 hw hk
  have hlen : x.ar.length ≤ 9223372036854775807 := by have := hx.len.1; unfold maxLen at this; exact this
  have hmx := (List.getElem?_eq_some_iff.1 h0).1
  have hi0 : (0 : Int) < (x.ar.length : Int) := by omega
  have hn0 : 0 < x.ar.length := by omega
  simp only [xV] at KO0 ⊢
  clear KX HZ h hE
  go_enter Tryz.func38, Tryz.ntmps38
  go_wp2
  obtain ⟨W0, hW0⟩ : ∃ W0, (w.alloc (.cells #[.int .i64 x.k, .int .i64 x.op, .int .i64 x.t, .int .i64 x.v, .string x.nm, .slice x.A x.ar.length x.c] 33)) = W0 := ⟨_, rfl⟩
  have hB0 : Below w.heap.size w W0 := by rw [← hW0]; exact bel_box _
  have b0 : W0.cell? ⟨w.heap.size, 0, none⟩ = some (.int .i64 x.k) := by rw [← hW0]; simp [go_sem]
  have b1 : W0.cell? ⟨w.heap.size, 1, none⟩ = some (.int .i64 x.op) := by rw [← hW0]; simp [go_sem]
  have b2 : W0.cell? ⟨w.heap.size, 2, none⟩ = some (.int .i64 x.t) := by rw [← hW0]; simp [go_sem]
  have b3 : W0.cell? ⟨w.heap.size, 3, none⟩ = some (.int .i64 x.v) := by rw [← hW0]; simp [go_sem]
  have b4 : W0.cell? ⟨w.heap.size, 4, none⟩ = some (.string x.nm) := by rw [← hW0]; simp [go_sem]
  have b5 : W0.cell? ⟨w.heap.size, 5, none⟩ = some (.slice x.A x.ar.length x.c) := by rw [← hW0]; simp [go_sem]
  have HW0 := Lib.hid hW0
  clear hW0
  rw [HW0.out]
  obtain ⟨ad0, y0, hA0, had0, hy0, _, ⟨c00, c01, c02, c03, c04, c05⟩, _⟩ := (hx.to hB0).at_ (i := 0) (by have := (List.getElem?_eq_some_iff.1 h0).1; omega)
  obtain rfl : y0 = a0 := Option.some.inj (hy0.symm.trans h0)
  rw [hA0] at b5 ⊢
  clear hA0 hy0
  simp [go_sem] at c00 c01 c02 c03 c04 c05
  have q_b0 := cell_regrown b0
  have q_b1 := cell_regrown b1
  have q_b2 := cell_regrown b2
  have q_b3 := cell_regrown b3
  have q_b4 := cell_regrown b4
  have q_b5 := cell_regrown b5
  have q_c00 := cell_regrown c00
  have q_c01 := cell_regrown c01
  have q_c02 := cell_regrown c02
  have q_c03 := cell_regrown c03
  have q_c04 := cell_regrown c04
  have q_c05 := cell_regrown c05
  have k_0 := fun dd os => Calls.regrown_of (KO0.out (grow (redrawn W0 dd) os) (hB0.trans ((below_regrown W0 dd os).mono hB0.size)))
  have k_1 := fun dd os => Calls.regrown_of (KS.out (grow (redrawn W0 dd) os) (hB0.trans ((below_regrown W0 dd os).mono hB0.size)))
  refine wp_region_quiet_below (by kernel_rfl) (by kernel_rfl) ?_
  repeat (quiet_step (first | with_reducible exact k_0 _ _ | with_reducible exact k_1 _ _))
  refine wpQuiet_nil ?_
  intro _ hw'
  obtain ⟨⟨dq, osq⟩, hw''⟩ := hw'
  subst hw''
  have hrw9 : Below W0.heap.size W0 (grow (redrawn W0 dq) osq) := below_regrown W0 dq osq
  have hw9 : Below w.heap.size w (grow (redrawn W0 dq) osq) := hB0.trans (hrw9.mono hB0.size)
  generalize grow (redrawn W0 dq) osq = w9 at hw9 hrw9 ⊢
  clear q_b0 q_b1 q_b2 q_b3 q_b4 q_b5 q_c00 q_c01 q_c02 q_c03 q_c04 q_c05 k_0 k_1
  go_wp2
  go_ret
  exact ⟨rfl, hw9⟩
end Go.Proofs.YtoimjcfdiljkjaaGreatDoor
