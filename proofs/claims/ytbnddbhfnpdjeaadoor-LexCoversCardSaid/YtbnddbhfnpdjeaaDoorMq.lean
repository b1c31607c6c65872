/- Facts of scanning for LexCovers. -/
import Derived.Test.YtbnddbhfnpdjeaaDoorMn
namespace Go.Proofs.YtbnddbhfnpdjeaaDoor
set_option linter.unusedVariables false
set_option linter.unusedSimpArgs false
open Go.RowKit
theorem take_b {α : Type} (l : List α) (b g : Nat) : l.take (b + g) = l.take b ++ (l.drop b).take g := List.take_add
theorem gap_take (l : List UInt8) : gapN (l.take (gapN l)) = gapN l := by
  generalize hN : l.length = N
  induction N using Nat.strongRecOn generalizing l with
  | ind N ih =>
    subst hN
    rcases l with _ | ⟨c, r⟩
    · rw [gap_nil]; exact gap_nil
    cases hb : pB ((c.toNat : Nat) : Int)
    · cases hd : Lib.hasPrefix (c :: r) [45, 45]
      · have h0 : gapN (c :: r) = 0 := gap_none (fun c' r' e => by injection e with e _; rw [← e]; exact hb) hd
        rw [h0, List.take_zero, gap_nil]
      · have hdp := sp_dash hd
        have hg := gap_dash hd
        obtain ⟨r', hr⟩ := pre2 hd
        obtain ⟨b, hbb⟩ : ∃ b, sp pN (c :: r) = b := ⟨_, rfl⟩
        obtain ⟨g, hgg⟩ : ∃ g, gapN ((c :: r).drop b) = g := ⟨_, rfl⟩
        have hih := ih ((c :: r).drop b).length (by rw [List.length_drop]; omega) _ rfl
        rw [hbb, hgg] at hg
        rw [hgg] at hih
        have hall := sp_take pN (c :: r)
        have hle := sp_length pN (c :: r)
        rw [hbb] at hall hle
        have hlen : ((c :: r).take b).length = b := by rw [List.length_take]; omega
        have hX : ∀ c' r', ((c :: r).drop b).take g = c' :: r' → pN ((c'.toNat : Nat) : Int) = false := by
          intro c' r' e
          have h2 : ((c :: r).drop b)[0]? = some c' := by
            have := congrArg (fun x : List UInt8 => x[0]?) e
            simp only [List.getElem?_cons_zero, List.getElem?_take] at this
            split at this
            · exact this
            · cases this
          rw [List.getElem?_drop, Nat.add_zero] at h2
          exact tw_end (fun c : UInt8 => pN ((c.toNat : Nat) : Int)) (c :: r) c' (by rw [← hbb] at h2; exact h2)
        have hsp : sp pN ((c :: r).take b ++ ((c :: r).drop b).take g) = b := by rw [sp_app hall hX, hlen]
        have hpre : Lib.hasPrefix ((c :: r).take b ++ ((c :: r).drop b).take g) [45, 45] = true := by
          have h2 : 2 ≤ b := by
            rw [← hbb, hr, sp_yes (by rfl), sp_yes (by rfl)]; omega
          obtain ⟨b', rfl⟩ : ∃ b', b = b' + 2 := ⟨b - 2, by omega⟩
          rw [hr]
          simp [Lib.hasPrefix]
        rw [hg, take_b, gap_dash hpre, hsp, List.drop_left' hlen, hih]
    · have hg : gapN (c :: r) = gapN r + 1 := gap_blank hb
      rw [hg, List.take_succ_cons, gap_blank hb, ih r.length (by simp) r rfl]
theorem scan_gap (l : List UInt8) (k : Nat) : scanL (l.take (gapN l)) k = ([], 0, 0) := by
  apply scanL_end
  rw [gap_take, List.length_take]
  omega
/-- one token from a place on -/
theorem scan_step {q : ByteArray} {p : Nat} {t : Tk} {ts : List Tk} (hp : p ≤ q.size) (h : scanL (q.data.toList.drop p) p = (t :: ts, 0, 0)) :
    ∃ e p' : Nat, p ≤ e ∧ t.2.2 = (e : Int) ∧ p' = e + (jb t).length ∧ p' ≤ q.size ∧ jb t ≠ [] ∧ q.extract e p' = jt t ∧ scanL ((q.extract p e).data.toList) 0 = ([], 0, 0) ∧ scanL (q.data.toList.drop p') p' = (ts, 0, 0) := by
  obtain ⟨l, hl⟩ : ∃ l, q.data.toList.drop p = l := ⟨_, rfl⟩
  have hz : l.length = q.size - p := by rw [← hl, List.length_drop, len_toList]
  rw [hl] at h
  by_cases hlt : gapN l < l.length
  · obtain ⟨⟨a, tx, n, er⟩, hf⟩ : ∃ f, fL (l.drop (gapN l)) = f := ⟨_, rfl⟩
    by_cases he : er = 0
    · subst he
      have hne : l.drop (gapN l) ≠ [] := by rw [Ne, List.drop_eq_nil_iff]; omega
      have hsz := fL_size hne (by rw [hf])
      rw [hf, List.length_drop] at hsz
      simp only at hsz
      rw [scanL_go hlt hf] at h
      by_cases h0 : (scanL (l.drop (gapN l + n)) (p + (gapN l + n))).2.2 = 0
      · rw [if_pos h0] at h
        injection h with h1 h2
        injection h1 with h1 h3
        subst h1
        obtain ⟨g1, g2, g3⟩ := good_of hne hf ((p + gapN l : Nat) : Int)
        refine ⟨p + gapN l, p + gapN l + n, by omega, rfl, by rw [g3], by omega, g1.pos, ?_, ?_, ?_⟩
        · apply ba_ext
          rw [ext_list, ← List.drop_drop, hl, Nat.add_sub_cancel_left]
          exact g2
        · rw [ext_list, hl, Nat.add_sub_cancel_left]
          exact scan_gap l 0
        · have hd : q.data.toList.drop (p + gapN l + n) = l.drop (gapN l + n) := by rw [← hl, List.drop_drop, Nat.add_assoc]
          rw [hd, Nat.add_assoc]
          exact Prod.ext h3 h2
      · rw [if_neg h0] at h
        injection h with h1 _
        cases h1
    · rw [scanL_err hlt hf he] at h
      injection h with h1 _
      cases h1
  · rw [scanL_end hlt] at h
    injection h with h1 _
    cases h1
theorem scan_last {q : ByteArray} {p : Nat} (hp : p ≤ q.size) (h : scanL (q.data.toList.drop p) p = ([], 0, 0)) : scanL ((q.extract p q.size).data.toList) 0 = ([], 0, 0) := by
  rw [drop_bytes]
  generalize q.data.toList.drop p = l at *
  by_cases hlt : gapN l < l.length
  · obtain ⟨⟨a, tx, n, er⟩, hf⟩ : ∃ f, fL (l.drop (gapN l)) = f := ⟨_, rfl⟩
    by_cases he : er = 0
    · subst he
      rw [scanL_go hlt hf] at h
      split at h
      · injection h with h1 _
        cases h1
      · rename_i h2
        injection h with _ h3
        exact absurd (by rw [h3]) h2
    · rw [scanL_err hlt hf he] at h
      injection h with _ h3
      injection h3 with _ h4
      exact absurd h4 he
  · exact scanL_end hlt
theorem RdT.one {w : World} {B : Nat} {ad : Addr} {l : List Tk} {k : Nat} {t : Tk} (h : RdT w B (some ad) l) (hk : l[k]? = some t) : RdT w B (some (ad.add (k * 3))) [t] := fun _ => by
  obtain ⟨ad', e, hb, hc⟩ := h (by rintro rfl; simp at hk)
  obtain rfl : ad = ad' := Option.some.inj e
  refine ⟨_, rfl, by rw [add_block]; exact hb, fun i u hu => ?_⟩
  rcases i with _ | i
  · obtain rfl : t = u := by simpa using hu
    rw [add_add', add_add', add_add']
    obtain ⟨h1, h2, h3⟩ := hc k t hk
    exact ⟨by simpa using h1, by simpa using h2, by simpa using h3⟩
  · simp at hu
theorem jn_one (t : Tk) : jn [t] 1 = jt t := by
  apply ba_ext
  rw [show (1 : Nat) = [t].length from rfl, jn_all]
  show Lib.join [jb t] [32] = _
  rw [Lib.join_one]
  rfl
theorem own_cap3 {w : World} {base n c : Nat} {e : TypeId} {A : Option Addr} {xs : List Value} (h : w.ownsRow base e 3 (.slice A n c) n xs) : n ≤ c := by
  rcases h.2 with ⟨hv, hn⟩ | ⟨g, cap, cur, hv, _, _, hnc, _⟩
  · omega
  · injection hv with _ _ hc; omega
/-- Scan's answer, with its room -/
theorem scan_cap (s : ByteArray) (w : World) (hstd : Std w) (h9 : s.size ≤ 65536) : Calls Tryd.prog 9 #[.string s] w (fun e w' => ∃ A c, e = .returned (.tuple #[.slice A (scanL s.data.toList 0).1.length c, .int .i64 (scanL s.data.toList 0).2.1, .int .i64 (scanL s.data.toList 0).2.2]) ∧ (RdT w' w'.heap.size A (scanL s.data.toList 0).1 ∧ (scanL s.data.toList 0).1.length ≤ c) ∧ Below w.heap.size w w') := by
  have := scan_any s w hstd h9
  rw [scanG_is] at this
  exact this.mono fun e w' ⟨A, c, h1, h2, h3⟩ => ⟨A, c, h1, ⟨RdT.of_own h2, own_cap3 h2⟩, h3⟩
end Go.Proofs.YtbnddbhfnpdjeaaDoor
