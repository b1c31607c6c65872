/- Text, number, Parse of the program. -/
import Derived.Test.YtjlkgejkgpnnkaaDoorVk
namespace Go.Proofs.YtjlkgejkgpnnkaaDoor
set_option linter.unusedVariables false
set_option linter.unusedSimpArgs false
open Go.RowKit
def textE (es : List En) (t v : Int) : Int := if valB es t then (if hasB es t v then 0 else 14) else 10
def textS (es : List En) (t v : Int) : ByteArray := if textE es t v = 0 then (if t = 2 then ⟨(Lib.itoa v).toArray⟩ else (tagsOf es t).getD v.toNat ⟨#[]⟩) else ⟨#[]⟩
theorem hasB_bd {es : List En} {t v : Int} (h : hasB es t v = true) (h2 : t ≠ 2) : 0 ≤ v ∧ v < (tagsOf es t).length := by
  rw [hasB, if_neg h2, sizeT, if_neg h2] at h
  simpa using h
theorem hasB_16 {es : List En} {v : Int} (h : hasB es 2 v = true) : -32768 ≤ v ∧ v ≤ 32767 := by
  rw [hasB, if_pos rfl] at h
  simpa using h
set_option maxHeartbeats 1000000 in
theorem text_any (A : Option Addr) (c : Nat) (es : List En) (t v : Int) (w : World) (hs : Std w) (hA : RdE w w.heap.size A es) (hl : es.length ≤ 9223372036854775807) (hti : t ≤ 9223372036854775807) :
    Calls Tryd.prog 21 #[.slice A es.length c, .int .i64 t, .int .i64 v] w (Bel (.tuple #[.string (textS es t v), .int .i64 (textE es t v)]) w) := by
  have KV := Lib.hid (fun w => valid_any A c es t w hl hti)
  have KH := Lib.hid (has_any A c es t v w hA hl hti)
  have KT := Lib.hid (fun w h => tags_any A c es t w h hl hti)
  have HS := Lib.hid hs
  have HA := Lib.hid hA
  clear hti hs hA
  by_cases hv : valB es t = true
  · by_cases hh : hasB es t v = true
    · have he : textE es t v = 0 := by rw [textE, if_pos hv, if_pos hh]
      by_cases h2 : t = 2
      · subst h2
        obtain ⟨v1, v2⟩ := hasB_16 hh
        have hx : textS es 2 v = ⟨(Lib.itoa v).toArray⟩ := by rw [textS, if_pos he, if_pos rfl]
        rw [he, hx]
        rw [hv] at KV
        rw [hh] at KH
        clear he hx hv hh
        go_enter Tryd.func21, Tryd.ntmps21
        go_wp2_with (first
          | (go_at_call 44; refine (KV.out _).mono ?_; rintro e w1 ⟨rfl, rfl⟩)
          | (go_at_call 15; refine KH.out.mono ?_; rintro e w2 ⟨rfl, hb2⟩)
          | (go_at_call 45; refine (itoa_any _ _ (HS.out.to ?_) (by omega) (by omega)).mono ?_; (focus ((repeat (first | (with_reducible exact Below.refl _ _) | (with_reducible assumption) | (with_reducible exact bel_box _) | (with_reducible refine bel_step ?_ (by with_reducible assumption)) | (with_reducible refine Below.drew ?_) | (with_reducible refine below_drewN ?_ _) | (with_reducible refine bel_alloc ?_ _))); done)); rintro e w3 ⟨rfl, hb3⟩))
        go_ret2
        exact ⟨rfl, (by repeat (first | (with_reducible exact Below.refl _ _) | (with_reducible assumption) | (with_reducible exact bel_box _) | (with_reducible refine bel_step ?_ (by with_reducible assumption)) | (with_reducible refine Below.drew ?_) | (with_reducible refine below_drewN ?_ _) | (with_reducible refine bel_alloc ?_ _)))⟩
      · obtain ⟨v1, v2⟩ := hasB_bd hh h2
        obtain ⟨k, rfl⟩ : ∃ k : Nat, v = k := ⟨v.toNat, by omega⟩
        have hk : k < (tagsOf es t).length := by omega
        have e2 : (t == 2) = false := by simp [h2]
        have hx : textS es t k = (tagsOf es t).getD k ⟨#[]⟩ := by rw [textS, if_pos he, if_neg h2]; rfl
        have HX := Lib.hid hx
        rw [he]
        rw [hv] at KV
        rw [hh] at KH
        clear he hx hv hh h2 v1 v2
        go_enter Tryd.func21, Tryd.ntmps21
        go_wp2_with (first
          | (go_at_call 44; refine (KV.out _).mono ?_; rintro e w1 ⟨rfl, rfl⟩)
          | (go_at_call 15; refine KH.out.mono ?_; rintro e w2 ⟨rfl, hb2⟩)
          | (go_at_call 40; refine (KT.out _ (HA.out.to ?_)).mono ?_; (focus ((repeat (first | (with_reducible exact Below.refl _ _) | (with_reducible assumption) | (with_reducible exact bel_box _) | (with_reducible refine bel_step ?_ (by with_reducible assumption)) | (with_reducible refine Below.drew ?_) | (with_reducible refine below_drewN ?_ _) | (with_reducible refine bel_alloc ?_ _))); done)); rintro e w3 ⟨A', c', rfl, hr, hb3⟩; obtain ⟨ad, b, rfl, _, hgb, hcb⟩ := hr.str_at hk))
        go_ret2
        exact ⟨by rw [HX.out, List.getD, hgb]; rfl, (by repeat (first | (with_reducible exact Below.refl _ _) | (with_reducible assumption) | (with_reducible exact bel_box _) | (with_reducible refine bel_step ?_ (by with_reducible assumption)) | (with_reducible refine Below.drew ?_) | (with_reducible refine below_drewN ?_ _) | (with_reducible refine bel_alloc ?_ _)))⟩
    · rw [Bool.not_eq_true] at hh
      have he : textE es t v = 14 := by rw [textE, if_pos hv, hh]; rfl
      have hx : textS es t v = ⟨#[]⟩ := by rw [textS, he, if_neg (by omega)]
      rw [he, hx]
      rw [hv] at KV
      rw [hh] at KH
      clear he hx hv hh
      go_enter Tryd.func21, Tryd.ntmps21
      go_wp2_with (first
        | (go_at_call 44; refine (KV.out _).mono ?_; rintro e w1 ⟨rfl, rfl⟩)
        | (go_at_call 15; refine KH.out.mono ?_; rintro e w2 ⟨rfl, hb2⟩))
      go_ret2
      exact ⟨rfl, (by repeat (first | (with_reducible exact Below.refl _ _) | (with_reducible assumption) | (with_reducible exact bel_box _) | (with_reducible refine bel_step ?_ (by with_reducible assumption)) | (with_reducible refine Below.drew ?_) | (with_reducible refine below_drewN ?_ _) | (with_reducible refine bel_alloc ?_ _)))⟩
  · rw [Bool.not_eq_true] at hv
    have he : textE es t v = 10 := by rw [textE, hv]; rfl
    have hx : textS es t v = ⟨#[]⟩ := by rw [textS, he, if_neg (by omega)]
    rw [he, hx]
    rw [hv] at KV
    clear he hx hv
    go_enter Tryd.func21, Tryd.ntmps21
    go_wp2_with (first
      | (go_at_call 44; refine (KV.out _).mono ?_; rintro e w1 ⟨rfl, rfl⟩))
    go_ret2
    exact ⟨rfl, Below.refl _ _⟩
def numB (l : List UInt8) : Bool := atoiOk l && (decide (-32768 ≤ atoiV l) && decide (atoiV l ≤ 32767)) && (Lib.itoa (atoiV l) == l)
def numV (l : List UInt8) : Int := if numB l then atoiV l else 0
def numE (l : List UInt8) : Int := if numB l then 0 else 5
theorem number_any (s : ByteArray) (w : World) (hs : Std w) (hl : s.size ≤ 281474976710656) :
    Calls Tryd.prog 47 #[.string s] w (Bel (.tuple #[.int .i64 (numV s.data.toList), .int .i64 (numE s.data.toList)]) w) := by
  have HS := Lib.hid hs
  have KA := Lib.hid (atoi_any s w hs hl)
  clear hs hl
  cases h1 : atoiOk s.data.toList
  · have hb : numB s.data.toList = false := by rw [numB, h1]; rfl
    have H1 := Lib.hid h1
    have HX : Hid (numV s.data.toList = 0 ∧ numE s.data.toList = 5) := Lib.hid ⟨by rw [numV, hb]; rfl, by rw [numE, hb]; rfl⟩
    clear h1 hb
    go_enter Tryd.func47, Tryd.ntmps47
    go_wp2_with (first
      | (go_at_call 61; refine KA.out.mono ?_; rintro e w1 ⟨ev, rfl, hb1, hev⟩; rw [H1.out] at hev; obtain ⟨t, p, rfl⟩ := hev))
    go_ret2
    exact ⟨by rw [HX.out.1, HX.out.2]; rfl, (by repeat (first | (with_reducible exact Below.refl _ _) | (with_reducible assumption) | (with_reducible exact bel_box _) | (with_reducible refine bel_step ?_ (by with_reducible assumption)) | (with_reducible refine Below.drew ?_) | (with_reducible refine below_drewN ?_ _) | (with_reducible refine bel_alloc ?_ _)))⟩
  · have H1 := Lib.hid h1
    clear h1
    cases h2 : (decide (-32768 ≤ atoiV s.data.toList) && decide (atoiV s.data.toList ≤ 32767))
    · have hb : numB s.data.toList = false := by rw [numB, h2]; simp
      have H2 := Lib.hid h2
      have HX : Hid (numV s.data.toList = 0 ∧ numE s.data.toList = 5) := Lib.hid ⟨by rw [numV, hb]; rfl, by rw [numE, hb]; rfl⟩
      clear h2 hb
      go_enter Tryd.func47, Tryd.ntmps47
      go_wp2_with (first
        | (go_at_call 61; refine KA.out.mono ?_; rintro e w1 ⟨ev, rfl, hb1, hev⟩; rw [H1.out, if_pos rfl] at hev; subst hev)
        | (go_at_call 41; refine (in_any _ _).mono ?_; rintro e w2 ⟨rfl, rfl⟩; rw [H2.out]))
      go_ret2
      exact ⟨by rw [HX.out.1, HX.out.2]; rfl, (by repeat (first | (with_reducible exact Below.refl _ _) | (with_reducible assumption) | (with_reducible exact bel_box _) | (with_reducible refine bel_step ?_ (by with_reducible assumption)) | (with_reducible refine Below.drew ?_) | (with_reducible refine below_drewN ?_ _) | (with_reducible refine bel_alloc ?_ _)))⟩
    · have H2 := Lib.hid h2
      obtain ⟨n1, n2⟩ : -32768 ≤ atoiV s.data.toList ∧ atoiV s.data.toList ≤ 32767 := by simpa using h2
      by_cases h3 : Lib.itoa (atoiV s.data.toList) = s.data.toList
      · have hb : numB s.data.toList = true := by rw [numB, H1.out, h2, h3]; simp
        have HX : Hid (numV s.data.toList = atoiV s.data.toList ∧ numE s.data.toList = 0) := Lib.hid ⟨by rw [numV, hb]; rfl, by rw [numE, hb]; rfl⟩
        have H3 := Lib.hid (show (⟨(Lib.itoa (atoiV s.data.toList)).toArray⟩ : ByteArray) = s by rw [h3])
        clear h2 h3 hb
        go_enter Tryd.func47, Tryd.ntmps47
        go_wp2_with (first
          | (go_at_call 61; refine KA.out.mono ?_; rintro e w1 ⟨ev, rfl, hb1, hev⟩; rw [H1.out, if_pos rfl] at hev; subst hev)
          | (go_at_call 41; refine (in_any _ _).mono ?_; rintro e w2 ⟨rfl, rfl⟩; rw [H2.out])
          | (go_at_call 45; refine (itoa_any _ _ (HS.out.to ?_) (by omega) (by omega)).mono ?_; (focus ((repeat (first | (with_reducible exact Below.refl _ _) | (with_reducible assumption) | (with_reducible exact bel_box _) | (with_reducible refine bel_step ?_ (by with_reducible assumption)) | (with_reducible refine Below.drew ?_) | (with_reducible refine below_drewN ?_ _) | (with_reducible refine bel_alloc ?_ _))); done)); rintro e w3 ⟨rfl, hb3⟩; rw [H3.out]))
        go_ret2
        exact ⟨by rw [HX.out.1, HX.out.2]; rfl, (by repeat (first | (with_reducible exact Below.refl _ _) | (with_reducible assumption) | (with_reducible exact bel_box _) | (with_reducible refine bel_step ?_ (by with_reducible assumption)) | (with_reducible refine Below.drew ?_) | (with_reducible refine below_drewN ?_ _) | (with_reducible refine bel_alloc ?_ _)))⟩
      · have hb : numB s.data.toList = false := by rw [numB, beq_eq_false_iff_ne.2 h3]; simp
        have HX : Hid (numV s.data.toList = 0 ∧ numE s.data.toList = 5) := Lib.hid ⟨by rw [numV, hb]; rfl, by rw [numE, hb]; rfl⟩
        have h3b : (Lib.itoa (atoiV s.data.toList) == s.toList) = false := by rw [ByteArray.toList_eq]; exact beq_eq_false_iff_ne.2 h3
        clear h2 hb h3
        go_enter Tryd.func47, Tryd.ntmps47
        go_wp2_with (first
          | (go_at_call 61; refine KA.out.mono ?_; rintro e w1 ⟨ev, rfl, hb1, hev⟩; rw [H1.out, if_pos rfl] at hev; subst hev)
          | (go_at_call 41; refine (in_any _ _).mono ?_; rintro e w2 ⟨rfl, rfl⟩; rw [H2.out])
          | (go_at_call 45; refine (itoa_any _ _ (HS.out.to ?_) (by omega) (by omega)).mono ?_; (focus ((repeat (first | (with_reducible exact Below.refl _ _) | (with_reducible assumption) | (with_reducible exact bel_box _) | (with_reducible refine bel_step ?_ (by with_reducible assumption)) | (with_reducible refine Below.drew ?_) | (with_reducible refine below_drewN ?_ _) | (with_reducible refine bel_alloc ?_ _))); done)); rintro e w3 ⟨rfl, hb3⟩))
        go_ret2
        exact ⟨by rw [HX.out.1, HX.out.2]; rfl, (by repeat (first | (with_reducible exact Below.refl _ _) | (with_reducible assumption) | (with_reducible exact bel_box _) | (with_reducible refine bel_step ?_ (by with_reducible assumption)) | (with_reducible refine Below.drew ?_) | (with_reducible refine below_drewN ?_ _) | (with_reducible refine bel_alloc ?_ _)))⟩
def parE (es : List En) (t : Int) (s : ByteArray) : Int := if valB es t then (if t = 2 then numE s.data.toList else if Lib.idxOfS (tagsOf es t) s < 0 then 5 else 0) else 10
def parV (es : List En) (t : Int) (s : ByteArray) : Int := if valB es t then (if t = 2 then numV s.data.toList else if Lib.idxOfS (tagsOf es t) s < 0 then 0 else Lib.idxOfS (tagsOf es t) s) else 0
theorem parse_any (A : Option Addr) (c : Nat) (es : List En) (t : Int) (s : ByteArray) (w : World) (hs : Std w) (hA : RdE w w.heap.size A es) (hl : es.length ≤ 9223372036854775807) (hti : t ≤ 9223372036854775807) (hsl : t = 2 → s.size ≤ 281474976710656) (htl : (tagsOf es t).length ≤ 9223372036854775807) :
    Calls Tryd.prog 23 #[.slice A es.length c, .int .i64 t, .string s] w (Bel (.tuple #[.int .i64 (parV es t s), .int .i64 (parE es t s)]) w) := by
  have KV := Lib.hid (fun w => valid_any A c es t w hl hti)
  have KN := Lib.hid (fun (h : t = 2) => number_any s w hs (hsl h))
  have KT := Lib.hid (tags_any A c es t w hA hl hti)
  have KI := Lib.hid (fun A' c' w' h => index_any A' c' (tagsOf es t) s w' h htl)
  clear hti hs hA hsl htl
  by_cases hv : valB es t = true
  · rw [hv] at KV
    by_cases h2 : t = 2
    · subst h2
      have kn2 := KN.out rfl
      have KN2 := Lib.hid kn2
      clear kn2
      have HX : Hid (parV es 2 s = numV s.data.toList ∧ parE es 2 s = numE s.data.toList) := Lib.hid ⟨by rw [parV, if_pos hv, if_pos rfl], by rw [parE, if_pos hv, if_pos rfl]⟩
      clear hv
      go_enter Tryd.func23, Tryd.ntmps23
      go_wp2_with (first
        | (go_at_call 44; refine (KV.out _).mono ?_; rintro e w1 ⟨rfl, rfl⟩)
        | (go_at_call 47; refine KN2.out.mono ?_; rintro e w2 ⟨rfl, hb2⟩))
      go_ret2
      exact ⟨by rw [HX.out.1, HX.out.2]; rfl, (by repeat (first | (with_reducible exact Below.refl _ _) | (with_reducible assumption) | (with_reducible exact bel_box _) | (with_reducible refine bel_step ?_ (by with_reducible assumption)) | (with_reducible refine Below.drew ?_) | (with_reducible refine below_drewN ?_ _) | (with_reducible refine bel_alloc ?_ _)))⟩
    · have e2 : (t == 2) = false := by simp [h2]
      by_cases hi : Lib.idxOfS (tagsOf es t) s < 0
      · have HX : Hid (parV es t s = 0 ∧ parE es t s = 5) := Lib.hid ⟨by rw [parV, if_pos hv, if_neg h2, if_pos hi], by rw [parE, if_pos hv, if_neg h2, if_pos hi]⟩
        clear hv h2
        go_enter Tryd.func23, Tryd.ntmps23
        go_wp2_with (first
          | (go_at_call 44; refine (KV.out _).mono ?_; rintro e w1 ⟨rfl, rfl⟩)
          | (go_at_call 40; refine KT.out.mono ?_; rintro e w2 ⟨A', c', rfl, hr, hb2⟩)
          | (go_at_call 48; refine (KI.out _ _ _ hr).mono ?_; rintro e w3 ⟨rfl, hb3⟩))
        go_ret2
        exact ⟨by rw [HX.out.1, HX.out.2]; rfl, (by repeat (first | (with_reducible exact Below.refl _ _) | (with_reducible assumption) | (with_reducible exact bel_box _) | (with_reducible refine bel_step ?_ (by with_reducible assumption)) | (with_reducible refine Below.drew ?_) | (with_reducible refine below_drewN ?_ _) | (with_reducible refine bel_alloc ?_ _)))⟩
      · have HX : Hid (parV es t s = Lib.idxOfS (tagsOf es t) s ∧ parE es t s = 0) := Lib.hid ⟨by rw [parV, if_pos hv, if_neg h2, if_neg hi], by rw [parE, if_pos hv, if_neg h2, if_neg hi]⟩
        have hib : decide (Lib.idxOfS (tagsOf es t) s < 0) = false := by simpa using hi
        clear hv h2 hi
        go_enter Tryd.func23, Tryd.ntmps23
        go_wp2_with (first
          | (go_at_call 44; refine (KV.out _).mono ?_; rintro e w1 ⟨rfl, rfl⟩)
          | (go_at_call 40; refine KT.out.mono ?_; rintro e w2 ⟨A', c', rfl, hr, hb2⟩)
          | (go_at_call 48; refine (KI.out _ _ _ hr).mono ?_; rintro e w3 ⟨rfl, hb3⟩))
        go_ret2
        exact ⟨by rw [HX.out.1, HX.out.2]; rfl, (by repeat (first | (with_reducible exact Below.refl _ _) | (with_reducible assumption) | (with_reducible exact bel_box _) | (with_reducible refine bel_step ?_ (by with_reducible assumption)) | (with_reducible refine Below.drew ?_) | (with_reducible refine below_drewN ?_ _) | (with_reducible refine bel_alloc ?_ _)))⟩
  · rw [Bool.not_eq_true] at hv
    rw [hv] at KV
    have HX : Hid (parV es t s = 0 ∧ parE es t s = 10) := Lib.hid ⟨by rw [parV, hv]; rfl, by rw [parE, hv]; rfl⟩
    clear hv
    go_enter Tryd.func23, Tryd.ntmps23
    go_wp2_with (first
      | (go_at_call 44; refine (KV.out _).mono ?_; rintro e w1 ⟨rfl, rfl⟩))
    go_ret2
    exact ⟨by rw [HX.out.1, HX.out.2]; rfl, Below.refl _ _⟩
/-- a new list of enumerations -/
def NewE (names : List (ByteArray × List ByteArray)) (w : World) (e : Ending) (w' : World) : Prop := ∃ A c es, es.map (fun x => (x.name, x.tags)) = names ∧ e = .returned (.slice A es.length c) ∧ RdE w' w'.heap.size A es ∧ Below w.heap.size w w'
abbrev sLight : ByteArray := ⟨#[76, 105, 103, 104, 116]⟩
abbrev sRed : ByteArray := ⟨#[82, 101, 100]⟩
abbrev sGreen : ByteArray := ⟨#[71, 114, 101, 101, 110]⟩
def LightE (w : World) (e : Ending) (w' : World) : Prop := ∃ A A', e = .returned (.slice A 1 1) ∧ RdE w' w'.heap.size A [⟨sLight, A', 2, [sRed, sGreen]⟩] ∧ Below w.heap.size w w'
theorem light_any (w : World) : Calls Tryd.prog 29 #[] w (LightE w) := by
  go_enter Tryd.func29, Tryd.ntmps29
  go_wp2
  go_ret
  refine ⟨_, some ⟨w.heap.size, 0, none⟩, rfl, ⟨fun _ => ⟨_, rfl, by simp, fun i e he => ?_⟩, fun i e he => ?_⟩, (by repeat (first | (with_reducible exact Below.refl _ _) | (with_reducible assumption) | (with_reducible exact bel_box _) | (with_reducible refine bel_step ?_ (by with_reducible assumption)) | (with_reducible refine Below.drew ?_) | (with_reducible refine below_drewN ?_ _) | (with_reducible refine bel_alloc ?_ _)))⟩
  · have hi : i = 0 := by have := (List.getElem?_eq_some_iff.1 he).1; simpa using this
    subst hi
    obtain rfl : (⟨sLight, some ⟨w.heap.size, 0, none⟩, 2, [sRed, sGreen]⟩ : En) = e := by simpa using he
    have h := fun i => cell_of_row _ _ i _ _ (0, 0) (heap_alloc_new (w.alloc (.cells #[.string sRed, .string sGreen] 9)) (.cells #[.string sLight, .slice (some ⟨w.heap.size, 0, none⟩) 2 2] 54))
    rw [World.size_alloc] at h
    exact ⟨h 0, h 1⟩
  · have hi : i = 0 := by have := (List.getElem?_eq_some_iff.1 he).1; simpa using this
    subst hi
    obtain rfl : (⟨sLight, some ⟨w.heap.size, 0, none⟩, 2, [sRed, sGreen]⟩ : En) = e := by simpa using he
    exact ((rd_alloc w #[.string sRed, .string sGreen] 9).below ((Below.refl _ _).alloc (Nat.le_refl _) _)).more (by simp)
end Go.Proofs.YtjlkgejkgpnnkaaDoor
