/- The walk of ValueTexts. -/
import Derived.Test.YtjlkgejkgpnnkaaDoorVd
namespace Go.Proofs.YtjlkgejkgpnnkaaDoor
set_option linter.unusedVariables false
set_option linter.unusedSimpArgs false
open Go.RowKit
/-- the first place of a text in a list -/
theorem idx_some {l : List ByteArray} {x : ByteArray} {v : Nat} (hv : v < l.length) (hx : l.getD v ⟨#[]⟩ = x) :
    ∃ k : Nat, k ≤ v ∧ k < l.length ∧ Lib.idxOfS l x = (k : Int) ∧ l.getD k ⟨#[]⟩ = x := by
  have he : ∃ y ∈ l, (decide (y = x)) = true := ⟨l[v], List.getElem_mem hv, by rw [List.getD, List.getElem?_eq_getElem hv] at hx; simpa using hx⟩
  have hlt : l.findIdx (fun y => decide (y = x)) < l.length := List.findIdx_lt_length.2 (by simpa using he)
  have hat := of_decide_eq_true (List.findIdx_getElem (w := hlt))
  have hmin : ∀ j, j < l.findIdx (fun y => decide (y = x)) → l.getD j ByteArray.empty ≠ x := fun j hj e => by
    have h1 := List.not_of_lt_findIdx hj
    have hjl : j < l.length := by omega
    rw [List.getD, List.getElem?_eq_getElem hjl] at e
    have e2 : l[j] = x := e
    simp [e2] at h1
  refine ⟨l.findIdx (fun y => decide (y = x)), ?_, hlt, ?_, by rw [List.getD, List.getElem?_eq_getElem hlt]; exact hat⟩
  · rcases Nat.lt_or_ge v (l.findIdx (fun y => decide (y = x))) with h | h
    · exact absurd hx (hmin v h)
    · exact h
  · have k := Go.Lib.idxOfS_hit l l.length _ x hlt (Nat.le_refl _) (by rw [List.getD, List.getElem?_eq_getElem hlt]; exact hat) hmin
    rwa [List.take_length] at k
theorem text_back {es : List En} {t v : Int} (h : textE es t v = 0) :
    parE es t (textS es t v) = 0 ∧ textE es t (parV es t (textS es t v)) = 0 ∧ textS es t (parV es t (textS es t v)) = textS es t v ∧ (parV es t (textS es t v) = v ∨ (3 ≤ t ∧ parV es t (textS es t v) < v)) ∧ (t = 2 → (textS es t v).size ≤ 281474976710656) := by
  have hv : valB es t = true := by
    rw [textE] at h
    cases hb : valB es t
    · rw [hb] at h; cases h
    · rfl
  have hh : hasB es t v = true := by
    rw [textE, if_pos hv] at h
    cases hb : hasB es t v
    · rw [hb] at h; cases h
    · rfl
  by_cases h2 : t = 2
  · subst h2
    obtain ⟨v1, v2⟩ := hasB_16 hh
    obtain ⟨n1, n2⟩ := numB_itoa v1 v2
    have hs : textS es 2 v = ⟨(Lib.itoa v).toArray⟩ := by rw [textS, if_pos h, if_pos rfl]
    have hd : (textS es 2 v).data.toList = Lib.itoa v := by rw [hs]
    have p1 : parE es 2 (textS es 2 v) = 0 := by rw [parE, if_pos hv, if_pos rfl, hd, numE, n1]; rfl
    have p2 : parV es 2 (textS es 2 v) = v := by rw [parV, if_pos hv, if_pos rfl, hd, numV, n1, n2]; rfl
    rw [p1, p2]
    refine ⟨rfl, h, rfl, .inl rfl, fun _ => ?_⟩
    rw [hs, ByteArray.size, List.size_toArray]
    have := itoa_shape v1 v2
    rcases this with ⟨_, r, e, _, _, _, hr⟩ | ⟨_, _, _, _, hr⟩
    · rw [e]; simp; omega
    · omega
  · obtain ⟨v1, v2⟩ := hasB_bd hh h2
    obtain ⟨k, rfl⟩ : ∃ k : Nat, v = k := ⟨v.toNat, by omega⟩
    have hs : textS es t k = (tagsOf es t).getD k ⟨#[]⟩ := by rw [textS, if_pos h, if_neg h2]; rfl
    obtain ⟨j, j1, j2, j3, j4⟩ := idx_some (l := tagsOf es t) (v := k) (by omega) hs.symm
    have p1 : parE es t (textS es t k) = 0 := by rw [parE, if_pos hv, if_neg h2, j3, if_neg (by omega)]
    have p2 : parV es t (textS es t k) = j := by rw [parV, if_pos hv, if_neg h2, j3, if_neg (by omega)]
    have hj : hasB es t j = true := by rw [hasB, if_neg h2, sizeT, if_neg h2]; simp; omega
    have e1 : textE es t j = 0 := by rw [textE, if_pos hv, if_pos hj]
    have e2 : textS es t j = textS es t k := by rw [textS, if_pos e1, if_neg h2, ← j4]; rfl
    rw [p1, p2]
    refine ⟨rfl, e1, e2, ?_, fun h => absurd h h2⟩
    by_cases hjk : j = k
    · exact .inl (by rw [hjk])
    · right
      refine ⟨?_, by omega⟩
      by_cases h1 : t = 1
      · subst h1
        have hl : (tagsOf es 1) = [sFalse, sTrue] := by rw [tagsOf, if_pos rfl]
        rw [hl] at v2 j4 hs
        rw [hs] at j4
        have : k = 1 ∧ j = 0 := by simp at v2; omega
        obtain ⟨rfl, rfl⟩ := this
        simp at j4
      · simp only [valB, enuB, Bool.or_eq_true, beq_iff_eq, Bool.and_eq_true, decide_eq_true_eq] at hv
        omega
theorem tags_le {es : List En} {t : Int} (htg : ∀ (i : Nat) (e : En), es[i]? = some e → e.tags.length ≤ 9223372036854775807 ∧ ∀ s ∈ e.tags, s.size ≤ maxLen) : (tagsOf es t).length ≤ 9223372036854775807 := by
  unfold tagsOf
  split
  · simp
  · split
    · cases h : es[(t - 3).toNat]? with
      | none => simp
      | some e => exact (htg _ e h).1
    · simp
set_option maxHeartbeats 4000000 in
theorem texts_any (A : Option Addr) (c : Nat) (es : List En) (t v : Int) (w : World) (hs : Std w) (hA : RdE w w.heap.size A es) (hl : es.length ≤ 9223372036854775807) (hti : t ≤ 9223372036854775807)
    (htg : ∀ (i : Nat) (e : En), es[i]? = some e → e.tags.length ≤ 9223372036854775807 ∧ ∀ s ∈ e.tags, s.size ≤ maxLen) :
    Calls Tryd.prog 4 #[.slice A es.length c, .int .i64 t, .int .i64 v] w (Bel (.bool true) w) := by
  have HS := Lib.hid hs
  have HA := Lib.hid hA
  have KU := Lib.hid (huge_any A c es w hA hl htg)
  have T1 := Lib.hid (fun v w hs h => text_any A c es t v w hs h hl hti)
  have T2 := Lib.hid (fun w h => rtext_any A c es t v w h hl hti)
  have KP := Lib.hid (fun w s hs h hz => parse_any A c es t s w hs h hl hti hz (tags_le htg))
  clear hs hA htg hl hti
  by_cases he : textE es t v = 0
  · obtain ⟨b1, b2, b3, b4, b5⟩ := text_back he
    have TA := Lib.hid (fun w hs h => T1.out v w hs h)
    have TB := Lib.hid (fun w hs h => T1.out (parV es t (textS es t v)) w hs h)
    have KQ := Lib.hid (fun w hs h => KP.out w (textS es t v) hs h b5)
    clear T1 KP b5
    rw [he] at TA T2
    rw [b2, b3] at TB
    rw [b1] at KQ
    clear b1 b2 b3 he
    generalize parV es t (textS es t v) = x at *
    generalize textS es t v = s at *
    rcases b4 with rfl | ⟨b4, b5⟩
    all_goals
      first
        | (have hxv : (x == v) = false := by rw [beq_eq_false_iff_ne]; omega)
        | skip
      go_enter Tryd.func4, Tryd.ntmps4
      go_wp2_with (first
        | (go_at_call 11; refine KU.out.mono ?_; rintro e w1 ⟨b, rfl, rfl, hb40⟩)
        | (go_at_call 21; (with_reducible refine (TA.out _ (HS.out.to ?_) (htoE HA ?_)).mono ?_); (focus ((repeat (first | (with_reducible exact Below.refl _ _) | (with_reducible assumption) | (with_reducible exact bel_box _) | (with_reducible refine bel_step ?_ (by with_reducible assumption)) | (with_reducible refine Below.drew ?_) | (with_reducible refine below_drewN ?_ _) | (with_reducible refine bel_alloc ?_ _))); done)); (focus ((repeat (first | (with_reducible exact Below.refl _ _) | (with_reducible assumption) | (with_reducible exact bel_box _) | (with_reducible refine bel_step ?_ (by with_reducible assumption)) | (with_reducible refine Below.drew ?_) | (with_reducible refine below_drewN ?_ _) | (with_reducible refine bel_alloc ?_ _))); done)); rintro e w2 ⟨rfl, hb2⟩)
        | (go_at_call 22; refine (T2.out _ (htoE HA ?_)).mono ?_; (focus ((repeat (first | (with_reducible exact Below.refl _ _) | (with_reducible assumption) | (with_reducible exact bel_box _) | (with_reducible refine bel_step ?_ (by with_reducible assumption)) | (with_reducible refine Below.drew ?_) | (with_reducible refine below_drewN ?_ _) | (with_reducible refine bel_alloc ?_ _))); done)); rintro e w2 ⟨rfl, hb2⟩)
        | (go_at_call 23; refine (KQ.out _ (HS.out.to ?_) (htoE HA ?_)).mono ?_; (focus ((repeat (first | (with_reducible exact Below.refl _ _) | (with_reducible assumption) | (with_reducible exact bel_box _) | (with_reducible refine bel_step ?_ (by with_reducible assumption)) | (with_reducible refine Below.drew ?_) | (with_reducible refine below_drewN ?_ _) | (with_reducible refine bel_alloc ?_ _))); done)); (focus ((repeat (first | (with_reducible exact Below.refl _ _) | (with_reducible assumption) | (with_reducible exact bel_box _) | (with_reducible refine bel_step ?_ (by with_reducible assumption)) | (with_reducible refine Below.drew ?_) | (with_reducible refine below_drewN ?_ _) | (with_reducible refine bel_alloc ?_ _))); done)); rintro e w2 ⟨rfl, hb2⟩)
        | (go_at_call 21; (with_reducible refine (TB.out _ (HS.out.to ?_) (htoE HA ?_)).mono ?_); (focus ((repeat (first | (with_reducible exact Below.refl _ _) | (with_reducible assumption) | (with_reducible exact bel_box _) | (with_reducible refine bel_step ?_ (by with_reducible assumption)) | (with_reducible refine Below.drew ?_) | (with_reducible refine below_drewN ?_ _) | (with_reducible refine bel_alloc ?_ _))); done)); (focus ((repeat (first | (with_reducible exact Below.refl _ _) | (with_reducible assumption) | (with_reducible exact bel_box _) | (with_reducible refine bel_step ?_ (by with_reducible assumption)) | (with_reducible refine Below.drew ?_) | (with_reducible refine below_drewN ?_ _) | (with_reducible refine bel_alloc ?_ _))); done)); rintro e w2 ⟨rfl, hb2⟩)
        | (go_at_call 12; refine (awake_any _ (HS.out.to ?_)).mono ?_; (focus ((repeat (first | (with_reducible exact Below.refl _ _) | (with_reducible assumption) | (with_reducible exact bel_box _) | (with_reducible refine bel_step ?_ (by with_reducible assumption)) | (with_reducible refine Below.drew ?_) | (with_reducible refine below_drewN ?_ _) | (with_reducible refine bel_alloc ?_ _))); done)); rintro e w9 ⟨rfl, hb9⟩))
      all_goals go_ret
      all_goals exact ⟨rfl, (by repeat (first | (with_reducible exact Below.refl _ _) | (with_reducible assumption) | (with_reducible exact bel_box _) | (with_reducible refine bel_step ?_ (by with_reducible assumption)) | (with_reducible refine Below.drew ?_) | (with_reducible refine below_drewN ?_ _) | (with_reducible refine bel_alloc ?_ _)))⟩
  · have heb : (textE es t v != 0) = true := by simpa using he
    have TA := Lib.hid (fun w hs h => T1.out v w hs h)
    clear T1 KP he
    go_enter Tryd.func4, Tryd.ntmps4
    go_wp2_with (first
      | (go_at_call 11; refine KU.out.mono ?_; rintro e w1 ⟨b, rfl, rfl, hb40⟩)
      | (go_at_call 21; refine (TA.out _ (HS.out.to ?_) (htoE HA ?_)).mono ?_; (focus ((repeat (first | (with_reducible exact Below.refl _ _) | (with_reducible assumption) | (with_reducible exact bel_box _) | (with_reducible refine bel_step ?_ (by with_reducible assumption)) | (with_reducible refine Below.drew ?_) | (with_reducible refine below_drewN ?_ _) | (with_reducible refine bel_alloc ?_ _))); done)); (focus ((repeat (first | (with_reducible exact Below.refl _ _) | (with_reducible assumption) | (with_reducible exact bel_box _) | (with_reducible refine bel_step ?_ (by with_reducible assumption)) | (with_reducible refine Below.drew ?_) | (with_reducible refine below_drewN ?_ _) | (with_reducible refine bel_alloc ?_ _))); done)); rintro e w2 ⟨rfl, hb2⟩)
      | (go_at_call 22; refine (T2.out _ (htoE HA ?_)).mono ?_; (focus ((repeat (first | (with_reducible exact Below.refl _ _) | (with_reducible assumption) | (with_reducible exact bel_box _) | (with_reducible refine bel_step ?_ (by with_reducible assumption)) | (with_reducible refine Below.drew ?_) | (with_reducible refine below_drewN ?_ _) | (with_reducible refine bel_alloc ?_ _))); done)); rintro e w2 ⟨rfl, hb2⟩)
      | (go_at_call 12; refine (awake_any _ (HS.out.to ?_)).mono ?_; (focus ((repeat (first | (with_reducible exact Below.refl _ _) | (with_reducible assumption) | (with_reducible exact bel_box _) | (with_reducible refine bel_step ?_ (by with_reducible assumption)) | (with_reducible refine Below.drew ?_) | (with_reducible refine below_drewN ?_ _) | (with_reducible refine bel_alloc ?_ _))); done)); rintro e w9 ⟨rfl, hb9⟩))
    all_goals go_ret
    all_goals exact ⟨rfl, (by repeat (first | (with_reducible exact Below.refl _ _) | (with_reducible assumption) | (with_reducible exact bel_box _) | (with_reducible refine bel_step ?_ (by with_reducible assumption)) | (with_reducible refine Below.drew ?_) | (with_reducible refine below_drewN ?_ _) | (with_reducible refine bel_alloc ?_ _)))⟩
end Go.Proofs.YtjlkgejkgpnnkaaDoor
