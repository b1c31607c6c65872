/- The walk of LexCovers. -/
import Derived.Test.YtbnddbhfnpdjeaaDoorMq
namespace Go.Proofs.YtbnddbhfnpdjeaaDoor
set_option linter.unusedVariables false
set_option linter.unusedSimpArgs false
open Go.RowKit
/-- the law's loop at one text without error -/
theorem cover_facts (q : ByteArray) (hq : q.size ≤ 3000) (w : World) (hs : Std w) : ∃ (T : List Tk) (n : Nat) (er : Int),
    Hid (∀ W, Below w.heap.size w W → Calls Tryd.prog 9 #[.string q] W (fun e w' => ∃ A c, e = .returned (.tuple #[.slice A T.length c, .int .i64 n, .int .i64 er]) ∧ (RdT w' w'.heap.size A T ∧ T.length ≤ c) ∧ Below W.heap.size W w')) ∧
    (er ≠ 0 ∧ T = [] ∨ er = 0 ∧ T.length ≤ 3000 ∧ (∀ t ∈ T, t.2.1.size ≤ 65536) ∧ scanL (q.data.toList.drop 0) 0 = (T.drop 0, 0, 0)) := by
  refine ⟨(scanL q.data.toList 0).1, (scanL q.data.toList 0).2.1, (scanL q.data.toList 0).2.2, Lib.hid fun W hb => scan_cap q W (hs.to hb) (by omega), ?_⟩
  by_cases he : (scanL q.data.toList 0).2.2 = 0
  · have hl := scan_len q.data.toList 0
    have ht := scan_text q.data.toList 0
    simp only [len_toList] at hl ht
    refine .inr ⟨he, by omega, fun t h => by have := ht t h; omega, ?_⟩
    rw [List.drop_zero, List.drop_zero]
    exact Prod.ext rfl (Prod.ext (scan_ok _ _ he) he)
  · exact .inl ⟨he, scanL_none _ _ he⟩
theorem k_void (x : ByteArray) (hx : x.size ≤ 65536) (h : scanL x.data.toList 0 = ([], 0, 0)) : Hid (∀ W, Calls Tryd.prog 10 #[.string x] W (fun e w' => ∃ A c, e = .returned (.tuple #[.slice A 0 c, .int .i64 0, .int .i64 0]) ∧ Below W.heap.size W w')) := Lib.hid fun W => by
  have := rscan_is x W hx
  rw [h] at this
  exact this.mono fun e w' ⟨A, c, h1, _, h3⟩ => ⟨A, c, h1, h3⟩
set_option maxHeartbeats 4000000 in
set_option maxRecDepth 20000 in
theorem covers_any (s : ByteArray) (w : World) (hs : Std w) : Calls Tryd.prog 7 #[.string s] w (Bel (.bool true) w) := by
  have HS := Lib.hid hs
  by_cases hb : 3000 < s.size
  · obtain ⟨q, hqs⟩ : ∃ q, s.extract 0 3000 = q := ⟨_, rfl⟩
    have hq3 : q.size = 3000 := by rw [← hqs, ByteArray.size_extract]; omega
    obtain ⟨T, n, er, K1, ht⟩ := cover_facts q (by omega) w hs
    have hq4 : q.size ≤ 3000 := by omega
    have h1 : (3000 : Int) < (s.size : Int) := by omega
    have h2 : (3000 : Int) ≤ (s.size : Int) := by omega
    rcases ht with ⟨he, rfl⟩ | ⟨rfl, hT, htx, hsc⟩
    · have he2 : (er != 0) = true := by simpa using he
      clear hs hb he hq3
      go_enter Tryd.func7, Tryd.ntmps7
      go_wp2_with (first
        | (go_at_call 9; (with_reducible refine (K1.out _ ?_).mono ?_); (focus ((repeat (first | (with_reducible exact Below.refl _ _) | (with_reducible assumption) | (with_reducible exact bel_box _) | (with_reducible refine bel_step ?_ (by with_reducible assumption)) | (with_reducible refine Below.drew ?_) | (with_reducible refine below_drewN ?_ _) | (with_reducible refine bel_alloc ?_ _))); done)); rintro e w1 ⟨A1, c1, rfl, hT1, hb1⟩; clear hT1)
        | (go_at_call 12; (with_reducible refine (lives_any _ (HS.out.to ?_)).mono ?_); (focus ((repeat (first | (with_reducible exact Below.refl _ _) | (with_reducible assumption) | (with_reducible exact bel_box _) | (with_reducible refine bel_step ?_ (by with_reducible assumption)) | (with_reducible refine Below.drew ?_) | (with_reducible refine below_drewN ?_ _) | (with_reducible refine bel_alloc ?_ _))); done)); rintro e w4 ⟨rfl, hb4⟩))
      go_ret
      exact ⟨rfl, (by repeat (first | (with_reducible exact Below.refl _ _) | (with_reducible assumption) | (with_reducible exact bel_box _) | (with_reducible refine bel_step ?_ (by with_reducible assumption)) | (with_reducible refine Below.drew ?_) | (with_reducible refine below_drewN ?_ _) | (with_reducible refine bel_alloc ?_ _)))⟩
    · have HSC := Lib.hid hsc
      have HTX := Lib.hid htx
      clear hs hsc htx hq3
      go_enter Tryd.func7, Tryd.ntmps7
      go_wp2_with (go_at_call 9; (with_reducible refine (K1.out _ ?_).mono ?_); (focus ((repeat (first | (with_reducible exact Below.refl _ _) | (with_reducible assumption) | (with_reducible exact bel_box _) | (with_reducible refine bel_step ?_ (by with_reducible assumption)) | (with_reducible refine Below.drew ?_) | (with_reducible refine below_drewN ?_ _) | (with_reducible refine bel_alloc ?_ _))); done)); rintro e w1 ⟨A1, c1, rfl, ⟨hT1, hc1⟩, hb1⟩; have HT1 := Lib.hid hT1; clear hT1)
      go_loopw [6, 7] (fun at' i wr => ∃ k p : Nat, k ≤ T.length ∧ i = .int .i64 (k : Int) ∧ at' = .int .i64 (p : Int) ∧ p ≤ q.size ∧ Hid (scanL (q.data.toList.drop p) p = (T.drop k, 0, 0)) ∧ Below w1.heap.size w1 wr) (fun _ i _ => T.length + 1 - (intOf i).toNat)
      case atStart => exact ⟨0, 0, by omega, rfl, rfl, by omega, HSC, Below.refl _ _⟩
      case round =>
        obtain ⟨k, p, hk, rfl, rfl, hp, hrun, hbl⟩ := hrel
        by_cases hlt : k < T.length
        · obtain ⟨t, htk⟩ : ∃ t, T[k]? = some t := ⟨T[k], List.getElem?_eq_getElem hlt⟩
          have hdr : T.drop k = t :: T.drop (k + 1) := by
            rw [List.drop_eq_getElem_cons hlt]
            congr 1
            rw [List.getElem?_eq_getElem hlt] at htk
            exact Option.some.inj htk
          have hr := hrun.out
          rw [hdr] at hr
          obtain ⟨en, p', he1, he2, he3, he4, he5, he6, he7, he8⟩ := scan_step hp hr
          have HN := Lib.hid he8
          have KV := k_void (q.extract p en) (by rw [ByteArray.size_extract]; omega) he7
          obtain ⟨ad, t2, rfl, had, htk2, d1, d2, d3⟩ := (HT1.out.to hbl).at_ hlt
          obtain rfl : t = t2 := by rw [htk] at htk2; exact Option.some.inj htk2
          have HT2 : Hid (RdT w1 w1.heap.size (some (ad.add (k * 3))) [t]) := Lib.hid (HT1.out.one htk)
          have hts := HTX.out t (List.mem_of_getElem? htk)
          have KJ : Hid (∀ (A : Option Addr) (c : Nat) W, RdT W W.heap.size A [t] → Calls Tryd.prog 14 #[.slice A 1 c] W (Bel (.string (jt t)) W)) := Lib.hid fun A c W h => by
            have := rjoin_any A c [t] W h (by simp) (by intro u hu; obtain rfl : u = t := by simpa using hu
                                                        exact hts)
            rw [show [t].length = 1 from rfl, jn_one] at this
            exact this
          have hjz : (jt t).size = (jb t).length := by rw [jb, len_toList]
          have hj0 : 0 < (jt t).size := by rw [hjz]; exact List.length_pos_iff.2 he5
          obtain ⟨v1, v2, v3⟩ := ne_facts hj0
          rw [← hjz] at he3
          rw [he2] at d3
          have u1 : (k : Int) < (T.length : Int) := by omega
          have u2 : (p : Int) ≤ (en : Int) := by omega
          have u3 : (en : Int) ≤ (q.size : Int) := by omega
          have u4 : (0 : Int) ≤ (p : Int) := by omega
          have u5 : ((k : Int) == (T.length : Int)) = false := by rw [beq_eq_false_iff_ne]; omega
          have u6 : (en : Int) + ((jt t).size : Int) = (p' : Int) := by omega
          have u7 : IntKind.i64.wrap (p' : Int) = (p' : Int) := Go.IntWalk.i64_in _ ⟨by omega, by omega⟩
          have u8 : (p' : Int) ≤ (q.size : Int) := by omega
          have u9 : (en : Int) ≤ (p' : Int) := by omega
          have u10 : (0 : Int) ≤ (en : Int) := by omega
          have u11 : ((q.extract en p').toList == (jt t).toList) = true := by rw [he6]; simp
          clear he1 he2 he3 he4 he5 he6 he7 he8 hdr hr hrun htk htk2 hjz hts
          go_wp2_with (first
            | (go_at_call 10; (with_reducible refine (KV.out _).mono ?_); rintro e w2 ⟨A2, c2, rfl, hb2⟩)
            | (go_at_call 14; (with_reducible refine (KJ.out _ _ _ ?_).mono ?_); (focus (exact HT2.out.to (by repeat (first | (with_reducible exact Below.refl _ _) | (with_reducible assumption) | (with_reducible exact bel_box _) | (with_reducible refine bel_step ?_ (by with_reducible assumption)) | (with_reducible refine Below.drew ?_) | (with_reducible refine below_drewN ?_ _) | (with_reducible refine bel_alloc ?_ _))); done)); rintro e w3 ⟨rfl, hb3⟩))
          exact ⟨⟨k + 1, p', by omega, by congr 1, rfl, by omega, HN, (by repeat (first | (with_reducible exact Below.refl _ _) | (with_reducible assumption) | (with_reducible exact bel_box _) | (with_reducible refine bel_step ?_ (by with_reducible assumption)) | (with_reducible refine Below.drew ?_) | (with_reducible refine below_drewN ?_ _) | (with_reducible refine bel_alloc ?_ _)))⟩, by simp [intOf]; omega⟩
        · obtain rfl : k = T.length := by omega
          have hr := hrun.out
          rw [List.drop_length] at hr
          have KV := k_void (q.extract p q.size) (by rw [ByteArray.size_extract]; omega) (scan_last hp hr)
          have u2 : (p : Int) ≤ (q.size : Int) := by omega
          have u4 : (0 : Int) ≤ (p : Int) := by omega
          have u5 : ((T.length : Int) == (T.length : Int)) = true := by simp
          clear hr hrun
          go_wp2_with (first
            | (go_at_call 10; (with_reducible refine (KV.out _).mono ?_); rintro e w2 ⟨A2, c2, rfl, hb2⟩)
            | (go_at_call 12; (with_reducible refine (lives_any _ (HS.out.to ?_)).mono ?_); (focus ((repeat (first | (with_reducible exact Below.refl _ _) | (with_reducible assumption) | (with_reducible exact bel_box _) | (with_reducible refine bel_step ?_ (by with_reducible assumption)) | (with_reducible refine Below.drew ?_) | (with_reducible refine below_drewN ?_ _) | (with_reducible refine bel_alloc ?_ _))); done)); rintro e w4 ⟨rfl, hb4⟩))
          go_ret
          exact ⟨rfl, (by repeat (first | (with_reducible exact Below.refl _ _) | (with_reducible assumption) | (with_reducible exact bel_box _) | (with_reducible refine bel_step ?_ (by with_reducible assumption)) | (with_reducible refine Below.drew ?_) | (with_reducible refine below_drewN ?_ _) | (with_reducible refine bel_alloc ?_ _)))⟩
  · obtain ⟨T, n, er, K1, ht⟩ := cover_facts s (by omega) w hs
    have h1 : (s.size : Int) ≤ 3000 := by omega
    rcases ht with ⟨he, rfl⟩ | ⟨rfl, hT, htx, hsc⟩
    · have he2 : (er != 0) = true := by simpa using he
      clear hs hb he
      go_enter Tryd.func7, Tryd.ntmps7
      go_wp2_with (first
        | (go_at_call 9; (with_reducible refine (K1.out _ ?_).mono ?_); (focus ((repeat (first | (with_reducible exact Below.refl _ _) | (with_reducible assumption) | (with_reducible exact bel_box _) | (with_reducible refine bel_step ?_ (by with_reducible assumption)) | (with_reducible refine Below.drew ?_) | (with_reducible refine below_drewN ?_ _) | (with_reducible refine bel_alloc ?_ _))); done)); rintro e w1 ⟨A1, c1, rfl, hT1, hb1⟩; clear hT1)
        | (go_at_call 12; (with_reducible refine (lives_any _ (HS.out.to ?_)).mono ?_); (focus ((repeat (first | (with_reducible exact Below.refl _ _) | (with_reducible assumption) | (with_reducible exact bel_box _) | (with_reducible refine bel_step ?_ (by with_reducible assumption)) | (with_reducible refine Below.drew ?_) | (with_reducible refine below_drewN ?_ _) | (with_reducible refine bel_alloc ?_ _))); done)); rintro e w4 ⟨rfl, hb4⟩))
      go_ret
      exact ⟨rfl, (by repeat (first | (with_reducible exact Below.refl _ _) | (with_reducible assumption) | (with_reducible exact bel_box _) | (with_reducible refine bel_step ?_ (by with_reducible assumption)) | (with_reducible refine Below.drew ?_) | (with_reducible refine below_drewN ?_ _) | (with_reducible refine bel_alloc ?_ _)))⟩
    · have HSC := Lib.hid hsc
      have HTX := Lib.hid htx
      clear hs hsc htx
      go_enter Tryd.func7, Tryd.ntmps7
      go_wp2_with (go_at_call 9; (with_reducible refine (K1.out _ ?_).mono ?_); (focus ((repeat (first | (with_reducible exact Below.refl _ _) | (with_reducible assumption) | (with_reducible exact bel_box _) | (with_reducible refine bel_step ?_ (by with_reducible assumption)) | (with_reducible refine Below.drew ?_) | (with_reducible refine below_drewN ?_ _) | (with_reducible refine bel_alloc ?_ _))); done)); rintro e w1 ⟨A1, c1, rfl, ⟨hT1, hc1⟩, hb1⟩; have HT1 := Lib.hid hT1; clear hT1)
      go_loopw [6, 7] (fun at' i wr => ∃ k p : Nat, k ≤ T.length ∧ i = .int .i64 (k : Int) ∧ at' = .int .i64 (p : Int) ∧ p ≤ s.size ∧ Hid (scanL (s.data.toList.drop p) p = (T.drop k, 0, 0)) ∧ Below w1.heap.size w1 wr) (fun _ i _ => T.length + 1 - (intOf i).toNat)
      case atStart => exact ⟨0, 0, by omega, rfl, rfl, by omega, HSC, Below.refl _ _⟩
      case round =>
        obtain ⟨k, p, hk, rfl, rfl, hp, hrun, hbl⟩ := hrel
        by_cases hlt : k < T.length
        · obtain ⟨t, htk⟩ : ∃ t, T[k]? = some t := ⟨T[k], List.getElem?_eq_getElem hlt⟩
          have hdr : T.drop k = t :: T.drop (k + 1) := by
            rw [List.drop_eq_getElem_cons hlt]
            congr 1
            rw [List.getElem?_eq_getElem hlt] at htk
            exact Option.some.inj htk
          have hr := hrun.out
          rw [hdr] at hr
          obtain ⟨en, p', he1, he2, he3, he4, he5, he6, he7, he8⟩ := scan_step hp hr
          have HN := Lib.hid he8
          have KV := k_void (s.extract p en) (by rw [ByteArray.size_extract]; omega) he7
          obtain ⟨ad, t2, rfl, had, htk2, d1, d2, d3⟩ := (HT1.out.to hbl).at_ hlt
          obtain rfl : t = t2 := by rw [htk] at htk2; exact Option.some.inj htk2
          have HT2 : Hid (RdT w1 w1.heap.size (some (ad.add (k * 3))) [t]) := Lib.hid (HT1.out.one htk)
          have hts := HTX.out t (List.mem_of_getElem? htk)
          have KJ : Hid (∀ (A : Option Addr) (c : Nat) W, RdT W W.heap.size A [t] → Calls Tryd.prog 14 #[.slice A 1 c] W (Bel (.string (jt t)) W)) := Lib.hid fun A c W h => by
            have := rjoin_any A c [t] W h (by simp) (by intro u hu; obtain rfl : u = t := by simpa using hu
                                                        exact hts)
            rw [show [t].length = 1 from rfl, jn_one] at this
            exact this
          have hjz : (jt t).size = (jb t).length := by rw [jb, len_toList]
          have hj0 : 0 < (jt t).size := by rw [hjz]; exact List.length_pos_iff.2 he5
          obtain ⟨v1, v2, v3⟩ := ne_facts hj0
          rw [← hjz] at he3
          rw [he2] at d3
          have u1 : (k : Int) < (T.length : Int) := by omega
          have u2 : (p : Int) ≤ (en : Int) := by omega
          have u3 : (en : Int) ≤ (s.size : Int) := by omega
          have u4 : (0 : Int) ≤ (p : Int) := by omega
          have u5 : ((k : Int) == (T.length : Int)) = false := by rw [beq_eq_false_iff_ne]; omega
          have u6 : (en : Int) + ((jt t).size : Int) = (p' : Int) := by omega
          have u7 : IntKind.i64.wrap (p' : Int) = (p' : Int) := Go.IntWalk.i64_in _ ⟨by omega, by omega⟩
          have u8 : (p' : Int) ≤ (s.size : Int) := by omega
          have u9 : (en : Int) ≤ (p' : Int) := by omega
          have u10 : (0 : Int) ≤ (en : Int) := by omega
          have u11 : ((s.extract en p').toList == (jt t).toList) = true := by rw [he6]; simp
          clear he1 he2 he3 he4 he5 he6 he7 he8 hdr hr hrun htk htk2 hjz hts
          go_wp2_with (first
            | (go_at_call 10; (with_reducible refine (KV.out _).mono ?_); rintro e w2 ⟨A2, c2, rfl, hb2⟩)
            | (go_at_call 14; (with_reducible refine (KJ.out _ _ _ ?_).mono ?_); (focus (exact HT2.out.to (by repeat (first | (with_reducible exact Below.refl _ _) | (with_reducible assumption) | (with_reducible exact bel_box _) | (with_reducible refine bel_step ?_ (by with_reducible assumption)) | (with_reducible refine Below.drew ?_) | (with_reducible refine below_drewN ?_ _) | (with_reducible refine bel_alloc ?_ _))); done)); rintro e w3 ⟨rfl, hb3⟩))
          exact ⟨⟨k + 1, p', by omega, by congr 1, rfl, by omega, HN, (by repeat (first | (with_reducible exact Below.refl _ _) | (with_reducible assumption) | (with_reducible exact bel_box _) | (with_reducible refine bel_step ?_ (by with_reducible assumption)) | (with_reducible refine Below.drew ?_) | (with_reducible refine below_drewN ?_ _) | (with_reducible refine bel_alloc ?_ _)))⟩, by simp [intOf]; omega⟩
        · obtain rfl : k = T.length := by omega
          have hr := hrun.out
          rw [List.drop_length] at hr
          have KV := k_void (s.extract p s.size) (by rw [ByteArray.size_extract]; omega) (scan_last hp hr)
          have u2 : (p : Int) ≤ (s.size : Int) := by omega
          have u4 : (0 : Int) ≤ (p : Int) := by omega
          have u5 : ((T.length : Int) == (T.length : Int)) = true := by simp
          clear hr hrun
          go_wp2_with (first
            | (go_at_call 10; (with_reducible refine (KV.out _).mono ?_); rintro e w2 ⟨A2, c2, rfl, hb2⟩)
            | (go_at_call 12; (with_reducible refine (lives_any _ (HS.out.to ?_)).mono ?_); (focus ((repeat (first | (with_reducible exact Below.refl _ _) | (with_reducible assumption) | (with_reducible exact bel_box _) | (with_reducible refine bel_step ?_ (by with_reducible assumption)) | (with_reducible refine Below.drew ?_) | (with_reducible refine below_drewN ?_ _) | (with_reducible refine bel_alloc ?_ _))); done)); rintro e w4 ⟨rfl, hb4⟩))
          go_ret
          exact ⟨rfl, (by repeat (first | (with_reducible exact Below.refl _ _) | (with_reducible assumption) | (with_reducible exact bel_box _) | (with_reducible refine bel_step ?_ (by with_reducible assumption)) | (with_reducible refine Below.drew ?_) | (with_reducible refine below_drewN ?_ _) | (with_reducible refine bel_alloc ?_ _)))⟩
end Go.Proofs.YtbnddbhfnpdjeaaDoor
