/- huge; Type of both sides; the walk of ValueTypes. -/
import Derived.Test.YtjlkgejkgpnnkaaDoorVb
namespace Go.Proofs.YtjlkgejkgpnnkaaDoor
set_option linter.unusedVariables false
set_option linter.unusedSimpArgs false
open Go.RowKit
def HugeE (n : Nat) (w : World) (e : Ending) (w' : World) : Prop := ∃ b, e = .returned (.bool b) ∧ w = w' ∧ (¬ b = true → n ≤ 40)
set_option maxHeartbeats 1000000 in
theorem huge_any (A : Option Addr) (c : Nat) (es : List En) (w : World) (hA : RdE w w.heap.size A es) (hl : es.length ≤ 9223372036854775807) (ht : ∀ (i : Nat) (e : En), es[i]? = some e → e.tags.length ≤ 9223372036854775807 ∧ ∀ s ∈ e.tags, s.size ≤ maxLen) :
    Calls Tryd.prog 11 #[.slice A es.length c] w (HugeE es.length w) := by
  have HT := Lib.hid ht
  have HA := Lib.hid hA
  clear ht hA
  by_cases hg : 40 < es.length
  · go_enter Tryd.func11, Tryd.ntmps11
    go_wp2
    go_ret
    exact ⟨true, rfl, rfl, fun h => absurd rfl h⟩
  · have hg' : decide ((40 : Int) < (es.length : Int)) = false := by simp; omega
    have hg2 : es.length ≤ 40 := by omega
    clear hg hl
    go_enter Tryd.func11, Tryd.ntmps11
    go_wp2
    go_loop [3] (fun i => ∃ k : Nat, k ≤ es.length ∧ i = .int .i64 k) (fun i => es.length - (intOf i).toNat)
    case atStart => exact ⟨0, by omega, rfl⟩
    case round =>
      obtain ⟨k, hk, rfl⟩ := hrel
      by_cases hlt : k < es.length
      · obtain ⟨ad, e, rfl, hadb, he, hn, ht, hr⟩ := HA.out.at_ hlt
        obtain ⟨htl, hts⟩ := HT.out k e he
        have HS := Lib.hid hts
        clear hts
        by_cases h1 : 40 < e.tags.length
        · have h1' : decide ((40 : Int) < (e.tags.length : Int)) = true := by simp; omega
          go_wp2
          go_ret
          exact ⟨true, rfl, rfl, fun h => absurd rfl h⟩
        · have h1' : decide ((40 : Int) < (e.tags.length : Int)) = false := by simp; omega
          by_cases h2 : 200 < e.name.size
          · have h2' : decide ((200 : Int) < (e.name.size : Int)) = true := by simp; omega
            go_wp2
            go_ret
            exact ⟨true, rfl, rfl, fun h => absurd rfl h⟩
          · have h2' : decide ((200 : Int) < (e.name.size : Int)) = false := by simp; omega
            have htl2 : e.tags.length ≤ 40 := by omega
            clear h1 h2 htl
            go_wp2
            go_loop [4] (fun i => ∃ j : Nat, j ≤ e.tags.length ∧ i = .int .i64 j) (fun i => e.tags.length - (intOf i).toNat)
            case atStart => exact ⟨0, by omega, rfl⟩
            case round =>
              obtain ⟨j, hj, rfl⟩ := hrel
              by_cases hjt : j < e.tags.length
              · obtain ⟨ad2, s, hA2, _, hs, hc⟩ := hr.str_at hjt
                rw [hA2] at ht
                by_cases h3 : 200 < s.size
                · have h3' : decide ((200 : Int) < (s.size : Int)) = true := by simp; omega
                  go_wp2
                  go_ret
                  exact ⟨true, rfl, rfl, fun h => absurd rfl h⟩
                · have h3' : decide ((200 : Int) < (s.size : Int)) = false := by simp; omega
                  go_wp2
                  go_round
                  case rel => exact ⟨j + 1, by omega, by go_num⟩
                  case measure => simp [intOf]; omega
              · go_wp2
                go_round
                case rel => exact ⟨k + 1, by omega, by go_num⟩
                case measure => simp [intOf]; omega
      · go_wp2
        go_ret
        exact ⟨false, rfl, rfl, fun _ => hg2⟩
/-- the first enumeration with a name -/
def findN (es : List En) (nm : ByteArray) : Nat := es.findIdx fun e => decide (e.name = nm)
theorem findN_le (es : List En) (nm : ByteArray) : findN es nm ≤ es.length := List.findIdx_le_length
theorem findN_at {es : List En} {nm : ByteArray} (h : findN es nm < es.length) : ∃ e, es[findN es nm]? = some e ∧ e.name = nm := by
  refine ⟨es[findN es nm], List.getElem?_eq_getElem h, ?_⟩
  have := List.findIdx_getElem (w := h)
  exact of_decide_eq_true this
theorem findN_min {es : List En} {nm : ByteArray} {k : Nat} {e : En} (he : es[k]? = some e) (hx : e.name = nm) : findN es nm ≤ k := by
  rcases Nat.lt_or_ge k (findN es nm) with h | h
  · have h1 := List.not_of_lt_findIdx h
    have hk : k < es.length := (List.getElem?_eq_some_iff.1 he).1
    have h2 : es[k] = e := (List.getElem?_eq_some_iff.1 he).2
    simp only [h2, hx] at h1
    simp at h1
  · exact h
theorem findN_hit {es : List En} {nm : ByteArray} {k : Nat} {e : En} (he : es[k]? = some e) (hx : e.name = nm) (hf : k ≤ findN es nm) : findN es nm = k :=
  Nat.le_antisymm (findN_min he hx) hf
theorem findN_miss {es : List En} {nm : ByteArray} {k : Nat} {e : En} (he : es[k]? = some e) (hx : e.name ≠ nm) (hf : k ≤ findN es nm) : k + 1 ≤ findN es nm := by
  rcases Nat.lt_or_ge k (findN es nm) with h | h
  · exact h
  · have hk : findN es nm = k := by omega
    have hl : k < es.length := (List.getElem?_eq_some_iff.1 he).1
    obtain ⟨e', h1, h2⟩ := findN_at (es := es) (nm := nm) (by omega)
    rw [hk, he] at h1
    obtain rfl : e = e' := by simpa using h1
    exact absurd h2 hx
def typV (es : List En) (nm : ByteArray) : Int := if nm = sBool then 1 else if nm = sInt then 2 else if findN es nm < es.length then 3 + findN es nm else 0
def typK (es : List En) (nm : ByteArray) : Bool := decide (nm = sBool) || decide (nm = sInt) || decide (findN es nm < es.length)
set_option maxHeartbeats 1000000 in
theorem type_any (A : Option Addr) (c : Nat) (es : List En) (nm : ByteArray) (w : World) (hA : RdE w w.heap.size A es) (hl : es.length ≤ 40) :
    Calls Tryd.prog 19 #[.slice A es.length c, .string nm] w (Bel (.tuple #[.int .i64 (typV es nm), .bool (typK es nm)]) w) := by
  have HA := Lib.hid hA
  clear hA
  by_cases hb : nm = sBool
  · subst hb
    go_enter Tryd.func19, Tryd.ntmps19
    go_wp2
    go_ret2
    exact ⟨rfl, Below.refl _ _⟩
  by_cases hi : nm = sInt
  · subst hi
    go_enter Tryd.func19, Tryd.ntmps19
    go_wp2
    go_ret2
    exact ⟨rfl, Below.refl _ _⟩
  have hv : typV es nm = (if findN es nm < es.length then (3 : Int) + (findN es nm : Int) else 0) := by rw [typV, if_neg hb, if_neg hi]
  have hk : typK es nm = decide (findN es nm < es.length) := by rw [typK, decide_eq_false hb, decide_eq_false hi]; rfl
  have HV := Lib.hid hv
  have HK := Lib.hid hk
  have e1 : (nm.toList == [98, 111, 111, 108]) = false := by rw [ByteArray.toList_eq, beq_eq_false_iff_ne]; exact fun h => hb (ByteArray.ext (Array.toList_inj.mp h))
  have e2 : (nm.toList == [105, 110, 116]) = false := by rw [ByteArray.toList_eq, beq_eq_false_iff_ne]; exact fun h => hi (ByteArray.ext (Array.toList_inj.mp h))
  clear hv hk hb hi
  go_enter Tryd.func19, Tryd.ntmps19
  go_wp2
  go_loopw [15] (fun i wr => ∃ k : Nat, k ≤ es.length ∧ i = .int .i64 k ∧ Hid (k ≤ findN es nm) ∧ Below w.heap.size w wr) (fun i _ => es.length - (intOf i).toNat)
  case atStart => exact ⟨0, by omega, rfl, Lib.hid (Nat.zero_le _), Below.refl _ _⟩
  case round =>
    obtain ⟨k, hk, rfl, hf, hbl⟩ := hrel
    by_cases hlt : k < es.length
    · obtain ⟨ad, e, rfl, hadb, he, hn, ht, hr⟩ := (HA.out.to hbl).at_ hlt
      by_cases hx : e.name = nm
      · have hf2 : findN es nm = k := findN_hit he hx hf.out
        have HX : Hid (typV es nm = 3 + (k : Int) ∧ typK es nm = true) := Lib.hid ⟨by rw [HV.out, hf2, if_pos hlt], by rw [HK.out, hf2]; simp [hlt]⟩
        have hxb : (e.name.toList == nm.toList) = true := by rw [hx]; simp
        clear hx hf2 hf
        go_wp2
        go_ret2
        exact ⟨by rw [HX.out.1, HX.out.2]; rfl, (by repeat (first | (with_reducible exact Below.refl _ _) | (with_reducible assumption) | (with_reducible exact bel_box _) | (with_reducible refine bel_step ?_ (by with_reducible assumption)) | (with_reducible refine Below.drew ?_) | (with_reducible refine below_drewN ?_ _) | (with_reducible refine bel_alloc ?_ _)))⟩
      · have hf2 : k + 1 ≤ findN es nm := findN_miss he hx hf.out
        have HF := Lib.hid hf2
        have hxb : (e.name.toList == nm.toList) = false := (Go.Lib.bytes_beq_false_iff _ _).2 hx
        clear hx hf2 hf
        go_wp2
        go_roundw
        case rel => exact ⟨k + 1, by omega, by go_num, Lib.hid HF.out, hbl.alloc hbl.size _⟩
        case measure => simp [intOf]; omega
    · have hf2 : ¬ findN es nm < es.length := by have := hf.out; omega
      have HX : Hid (typV es nm = 0 ∧ typK es nm = false) := Lib.hid ⟨by rw [HV.out, if_neg hf2], by rw [HK.out]; simpa using hf2⟩
      clear hf2 hf
      go_wp2
      go_ret2
      exact ⟨by rw [HX.out.1, HX.out.2]; rfl, (by repeat (first | (with_reducible exact Below.refl _ _) | (with_reducible assumption) | (with_reducible exact bel_box _) | (with_reducible refine bel_step ?_ (by with_reducible assumption)) | (with_reducible refine Below.drew ?_) | (with_reducible refine below_drewN ?_ _) | (with_reducible refine bel_alloc ?_ _)))⟩
set_option maxHeartbeats 1000000 in
theorem rtype_any (A : Option Addr) (c : Nat) (es : List En) (nm : ByteArray) (w : World) (hA : RdE w w.heap.size A es) (hl : es.length ≤ 40) :
    Calls Tryd.prog 20 #[.slice A es.length c, .string nm] w (Bel (.tuple #[.int .i64 (typV es nm), .bool (typK es nm)]) w) := by
  have HA := Lib.hid hA
  clear hA
  by_cases hb : nm = sBool
  · subst hb
    go_enter Tryd.func20, Tryd.ntmps20
    go_wp2
    go_ret2
    exact ⟨rfl, Below.refl _ _⟩
  by_cases hi : nm = sInt
  · subst hi
    go_enter Tryd.func20, Tryd.ntmps20
    go_wp2
    go_ret2
    exact ⟨rfl, Below.refl _ _⟩
  have hv : typV es nm = (if findN es nm < es.length then (3 : Int) + (findN es nm : Int) else 0) := by rw [typV, if_neg hb, if_neg hi]
  have hk : typK es nm = decide (findN es nm < es.length) := by rw [typK, decide_eq_false hb, decide_eq_false hi]; rfl
  have HV := Lib.hid hv
  have HK := Lib.hid hk
  have e1 : (nm.toList == [98, 111, 111, 108]) = false := by rw [ByteArray.toList_eq, beq_eq_false_iff_ne]; exact fun h => hb (ByteArray.ext (Array.toList_inj.mp h))
  have e2 : (nm.toList == [105, 110, 116]) = false := by rw [ByteArray.toList_eq, beq_eq_false_iff_ne]; exact fun h => hi (ByteArray.ext (Array.toList_inj.mp h))
  clear hv hk hb hi
  go_enter Tryd.func20, Tryd.ntmps20
  go_wp2
  go_loop [6] (fun i => ∃ k : Nat, k ≤ es.length ∧ i = .int .i64 k ∧ Hid (k ≤ findN es nm)) (fun i => es.length - (intOf i).toNat)
  case atStart => exact ⟨0, by omega, rfl, Lib.hid (Nat.zero_le _)⟩
  case round =>
    obtain ⟨k, hk, rfl, hf⟩ := hrel
    by_cases hlt : k < es.length
    · obtain ⟨ad, e, rfl, hadb, he, hn, ht, hr⟩ := HA.out.at_ hlt
      by_cases hx : e.name = nm
      · have hf2 : findN es nm = k := findN_hit he hx hf.out
        have HX : Hid (typV es nm = 3 + (k : Int) ∧ typK es nm = true) := Lib.hid ⟨by rw [HV.out, hf2, if_pos hlt], by rw [HK.out, hf2]; simp [hlt]⟩
        have hxb : (e.name.toList == nm.toList) = true := by rw [hx]; simp
        clear hx hf2 hf
        go_wp2
        go_ret2
        exact ⟨by rw [HX.out.1, HX.out.2]; rfl, Below.refl _ _⟩
      · have hf2 : k + 1 ≤ findN es nm := findN_miss he hx hf.out
        have HF := Lib.hid hf2
        have hxb : (e.name.toList == nm.toList) = false := (Go.Lib.bytes_beq_false_iff _ _).2 hx
        clear hx hf2 hf
        go_wp2
        go_round
        case rel => exact ⟨k + 1, by omega, by go_num, Lib.hid HF.out⟩
        case measure => simp [intOf]; omega
    · have hf2 : ¬ findN es nm < es.length := by have := hf.out; omega
      have HX : Hid (typV es nm = 0 ∧ typK es nm = false) := Lib.hid ⟨by rw [HV.out, if_neg hf2], by rw [HK.out]; simpa using hf2⟩
      clear hf2 hf
      go_wp2
      go_ret2
      exact ⟨by rw [HX.out.1, HX.out.2]; rfl, Below.refl _ _⟩
theorem typ_back {es : List En} {t : Int} (hv : valB es t = true) :
    typK es (nameT es t) = true ∧ valB es (typV es (nameT es t)) = true ∧ nameT es (typV es (nameT es t)) = nameT es t ∧ typV es (nameT es t) ≤ t := by
  by_cases hb : nameT es t = sBool
  · have h1 : 1 ≤ t := by
      simp only [valB, enuB, Bool.or_eq_true, beq_iff_eq, Bool.and_eq_true, decide_eq_true_eq] at hv
      omega
    rw [hb]
    exact ⟨rfl, rfl, rfl, h1⟩
  by_cases hi : nameT es t = sInt
  · have h1 : 2 ≤ t := by
      simp only [valB, enuB, Bool.or_eq_true, beq_iff_eq, Bool.and_eq_true, decide_eq_true_eq] at hv
      by_cases h : t = 1
      · subst h
        exact absurd rfl hb
      · omega
    rw [hi]
    exact ⟨rfl, rfl, rfl, h1⟩
  have h1 : t ≠ 1 := fun h => hb (by subst h; rfl)
  have h2 : t ≠ 2 := fun h => hi (by subst h; rfl)
  have h3 : enuB es t = true := by
    simp only [valB, Bool.or_eq_true, beq_iff_eq] at hv
    rcases hv with (h | h) | h
    · exact absurd h h1
    · exact absurd h h2
    · exact h
  obtain ⟨k, rfl⟩ : ∃ k : Nat, t = k + 3 := ⟨(t - 3).toNat, by simp [enuB] at h3; omega⟩
  have hk : k < es.length := by simp [enuB] at h3; omega
  have he : es[k]? = some es[k] := List.getElem?_eq_getElem hk
  have hn := nameT_enu he
  have hm := findN_min (nm := nameT es ((k : Int) + 3)) he hn.symm
  obtain ⟨e', g1, g2⟩ := findN_at (es := es) (nm := nameT es ((k : Int) + 3)) (by omega)
  generalize nameT es ((k : Int) + 3) = nm at *
  have hlt : findN es nm < es.length := by omega
  have hV : typV es nm = (findN es nm : Int) + 3 := by rw [typV, if_neg hb, if_neg hi, if_pos hlt]; omega
  rw [hV]
  refine ⟨by rw [typK]; simp [hlt], ?_, ?_, by omega⟩
  · simp [valB, enuB]; omega
  · rw [nameT_enu g1, g2]
theorem typV_le {es : List En} {nm : ByteArray} (hl : es.length ≤ 40) : typV es nm ≤ 9223372036854775807 := by
  unfold typV
  have := findN_le es nm
  split
  · omega
  · split
    · omega
    · split <;> omega
theorem htoE {w W : World} {A : Option Addr} {es : List En} (h : Hid (RdE w w.heap.size A es)) (hb : Below w.heap.size w W) : RdE W W.heap.size A es := RdE.to h.out hb
set_option maxHeartbeats 4000000 in
set_option maxRecDepth 100000 in
theorem types_any (A : Option Addr) (c : Nat) (es : List En) (t v : Int) (nm : ByteArray) (w : World) (hs : Std w) (hA : RdE w w.heap.size A es) (hl : es.length ≤ 9223372036854775807) (hti : t ≤ 9223372036854775807)
    (htg : ∀ (i : Nat) (e : En), es[i]? = some e → e.tags.length ≤ 9223372036854775807 ∧ ∀ s ∈ e.tags, s.size ≤ maxLen) :
    Calls Tryd.prog 3 #[.slice A es.length c, .int .i64 t, .int .i64 v, .string nm] w (Bel (.bool true) w) := by
  have HS := Lib.hid hs
  have HA := Lib.hid hA
  have KU := Lib.hid (huge_any A c es w hA hl htg)
  have S1 := Lib.hid (fun w h => size_any A c es t w h hl hti)
  have S2 := Lib.hid (fun w h => rsize_any A c es t w h hl hti)
  have H1 := Lib.hid (fun w h => has_any A c es t v w h hl hti)
  have H2 := Lib.hid (fun w h => rhas_any A c es t v w h hl hti)
  have N1 := Lib.hid (fun w h => name_any A c es t w h hl hti)
  have N2 := Lib.hid (fun w h => rname_any A c es t w h hl hti)
  have TT := Lib.hid (fun nm w h h40 => type_any A c es nm w h h40)
  have TR := Lib.hid (fun nm w h h40 => rtype_any A c es nm w h h40)
  have NX := Lib.hid (fun nm w h (h40 : es.length ≤ 40) => name_any A c es (typV es nm) w h hl (typV_le h40))
  clear hs hA htg hl hti
  by_cases hg : (1000 : Int) < nm.size
  · have hg' : decide ((1000 : Int) < (nm.size : Int)) = true := by simpa using hg
    clear hg
    go_enter Tryd.func3, Tryd.ntmps3
    go_wp2_with (first
      | (go_at_call 11; refine KU.out.mono ?_; rintro e w1 ⟨b, rfl, rfl, hb40⟩)
      | (go_at_call 12; refine (awake_any _ (HS.out.to ?_)).mono ?_; (focus ((repeat (first | (with_reducible exact Below.refl _ _) | (with_reducible assumption) | (with_reducible exact bel_box _) | (with_reducible refine bel_step ?_ (by with_reducible assumption)) | (with_reducible refine Below.drew ?_) | (with_reducible refine below_drewN ?_ _) | (with_reducible refine bel_alloc ?_ _))); done)); rintro e w9 ⟨rfl, hb9⟩))
    all_goals go_ret
    all_goals exact ⟨rfl, (by repeat (first | (with_reducible exact Below.refl _ _) | (with_reducible assumption) | (with_reducible exact bel_box _) | (with_reducible refine bel_step ?_ (by with_reducible assumption)) | (with_reducible refine Below.drew ?_) | (with_reducible refine below_drewN ?_ _) | (with_reducible refine bel_alloc ?_ _)))⟩
  · have hg' : decide ((1000 : Int) < (nm.size : Int)) = false := by simpa using hg
    have hfin : valB es t = false ∨ (typK es (nameT es t) = true ∧ valB es (typV es (nameT es t)) = true ∧ nameT es (typV es (nameT es t)) = nameT es t ∧ typV es (nameT es t) ≤ t) := by
      cases h : valB es t
      · exact .inl rfl
      · exact .inr (typ_back h)
    have TA := Lib.hid (fun w h h40 => TT.out (nameT es t) w h h40)
    have NA := Lib.hid (fun w h h40 => NX.out (nameT es t) w h h40)
    have T1 := Lib.hid (fun w h h40 => TT.out nm w h h40)
    have T2 := Lib.hid (fun w h h40 => TR.out nm w h h40)
    clear TT TR NX hg
    generalize sizeT es t = sz at *
    generalize hasB es t v = hs at *
    generalize typV es nm = tv at *
    generalize typK es nm = tk at *
    generalize nameT es (typV es (nameT es t)) = y at *
    generalize valB es (typV es (nameT es t)) = b2 at *
    generalize typK es (nameT es t) = k2 at *
    generalize typV es (nameT es t) = x at *
    generalize nameT es t = a at *
    generalize valB es t = ok at *
    rcases hfin with rfl | ⟨rfl, rfl, rfl, hx⟩
    all_goals
      go_enter Tryd.func3, Tryd.ntmps3
      go_wp2_with (first
        | (go_at_call 11; refine KU.out.mono ?_; rintro e w1 ⟨b, rfl, rfl, hb40⟩)
        | (go_at_call 13; refine (S1.out _ (htoE HA ?_)).mono ?_; (focus ((repeat (first | (with_reducible exact Below.refl _ _) | (with_reducible assumption) | (with_reducible exact bel_box _) | (with_reducible refine bel_step ?_ (by with_reducible assumption)) | (with_reducible refine Below.drew ?_) | (with_reducible refine below_drewN ?_ _) | (with_reducible refine bel_alloc ?_ _))); done)); rintro e w2 ⟨rfl, hb2⟩)
        | (go_at_call 14; refine (S2.out _ (htoE HA ?_)).mono ?_; (focus ((repeat (first | (with_reducible exact Below.refl _ _) | (with_reducible assumption) | (with_reducible exact bel_box _) | (with_reducible refine bel_step ?_ (by with_reducible assumption)) | (with_reducible refine Below.drew ?_) | (with_reducible refine below_drewN ?_ _) | (with_reducible refine bel_alloc ?_ _))); done)); rintro e w2 ⟨rfl, hb2⟩)
        | (go_at_call 15; refine (H1.out _ (htoE HA ?_)).mono ?_; (focus ((repeat (first | (with_reducible exact Below.refl _ _) | (with_reducible assumption) | (with_reducible exact bel_box _) | (with_reducible refine bel_step ?_ (by with_reducible assumption)) | (with_reducible refine Below.drew ?_) | (with_reducible refine below_drewN ?_ _) | (with_reducible refine bel_alloc ?_ _))); done)); rintro e w2 ⟨rfl, hb2⟩)
        | (go_at_call 16; refine (H2.out _ (htoE HA ?_)).mono ?_; (focus ((repeat (first | (with_reducible exact Below.refl _ _) | (with_reducible assumption) | (with_reducible exact bel_box _) | (with_reducible refine bel_step ?_ (by with_reducible assumption)) | (with_reducible refine Below.drew ?_) | (with_reducible refine below_drewN ?_ _) | (with_reducible refine bel_alloc ?_ _))); done)); rintro e w2 ⟨rfl, hb2⟩)
        | (go_at_call 17; (with_reducible refine (N1.out _ (htoE HA ?_)).mono ?_); (focus ((repeat (first | (with_reducible exact Below.refl _ _) | (with_reducible assumption) | (with_reducible exact bel_box _) | (with_reducible refine bel_step ?_ (by with_reducible assumption)) | (with_reducible refine Below.drew ?_) | (with_reducible refine below_drewN ?_ _) | (with_reducible refine bel_alloc ?_ _))); done)); rintro e w2 ⟨rfl, hb2⟩)
        | (go_at_call 18; refine (N2.out _ (htoE HA ?_)).mono ?_; (focus ((repeat (first | (with_reducible exact Below.refl _ _) | (with_reducible assumption) | (with_reducible exact bel_box _) | (with_reducible refine bel_step ?_ (by with_reducible assumption)) | (with_reducible refine Below.drew ?_) | (with_reducible refine below_drewN ?_ _) | (with_reducible refine bel_alloc ?_ _))); done)); rintro e w2 ⟨rfl, hb2⟩)
        | (go_at_call 19; (with_reducible refine (T1.out _ (htoE HA ?_) (hb40 (by assumption))).mono ?_); (focus ((repeat (first | (with_reducible exact Below.refl _ _) | (with_reducible assumption) | (with_reducible exact bel_box _) | (with_reducible refine bel_step ?_ (by with_reducible assumption)) | (with_reducible refine Below.drew ?_) | (with_reducible refine below_drewN ?_ _) | (with_reducible refine bel_alloc ?_ _))); done)); rintro e w2 ⟨rfl, hb2⟩)
        | (go_at_call 20; refine (T2.out _ (htoE HA ?_) (hb40 (by assumption))).mono ?_; (focus ((repeat (first | (with_reducible exact Below.refl _ _) | (with_reducible assumption) | (with_reducible exact bel_box _) | (with_reducible refine bel_step ?_ (by with_reducible assumption)) | (with_reducible refine Below.drew ?_) | (with_reducible refine below_drewN ?_ _) | (with_reducible refine bel_alloc ?_ _))); done)); rintro e w2 ⟨rfl, hb2⟩)
        | (go_at_call 19; (with_reducible refine (TA.out _ (htoE HA ?_) (hb40 (by assumption))).mono ?_); (focus ((repeat (first | (with_reducible exact Below.refl _ _) | (with_reducible assumption) | (with_reducible exact bel_box _) | (with_reducible refine bel_step ?_ (by with_reducible assumption)) | (with_reducible refine Below.drew ?_) | (with_reducible refine below_drewN ?_ _) | (with_reducible refine bel_alloc ?_ _))); done)); rintro e w2 ⟨rfl, hb2⟩)
        | (go_at_call 17; (with_reducible refine (NA.out _ (htoE HA ?_) (hb40 (by assumption))).mono ?_); (focus ((repeat (first | (with_reducible exact Below.refl _ _) | (with_reducible assumption) | (with_reducible exact bel_box _) | (with_reducible refine bel_step ?_ (by with_reducible assumption)) | (with_reducible refine Below.drew ?_) | (with_reducible refine below_drewN ?_ _) | (with_reducible refine bel_alloc ?_ _))); done)); rintro e w2 ⟨rfl, hb2⟩)
        | (go_at_call 12; refine (awake_any _ (HS.out.to ?_)).mono ?_; (focus ((repeat (first | (with_reducible exact Below.refl _ _) | (with_reducible assumption) | (with_reducible exact bel_box _) | (with_reducible refine bel_step ?_ (by with_reducible assumption)) | (with_reducible refine Below.drew ?_) | (with_reducible refine below_drewN ?_ _) | (with_reducible refine bel_alloc ?_ _))); done)); rintro e w9 ⟨rfl, hb9⟩))
      all_goals go_ret
      all_goals exact ⟨rfl, (by repeat (first | (with_reducible exact Below.refl _ _) | (with_reducible assumption) | (with_reducible exact bel_box _) | (with_reducible refine bel_step ?_ (by with_reducible assumption)) | (with_reducible refine Below.drew ?_) | (with_reducible refine below_drewN ?_ _) | (with_reducible refine bel_alloc ?_ _)))⟩
end Go.Proofs.YtjlkgejkgpnnkaaDoor
