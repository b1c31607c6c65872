/- enumerated, valid, tags, Size, Has, Name of the program; known, Size, Has, Name of the reference. -/
import Derived.Test.YtjlkgejkgpnnkaaDoorVr
namespace Go.Proofs.YtjlkgejkgpnnkaaDoor
set_option linter.unusedVariables false
set_option linter.unusedSimpArgs false
open Go.RowKit
theorem add_off (b j : Nat) : (Addr.mk b 0 none).add j = ⟨b, j, none⟩ := by
  unfold Addr.add
  split
  · rename_i h; rw [h]
  · simp
/-- a row just made reads as what was laid -/
theorem rd_alloc (w : World) (cs : Array Value) (t : TypeId) : Rd (w.alloc (.cells cs t)) (w.alloc (.cells cs t)).heap.size (some ⟨w.heap.size, 0, none⟩) cs.toList := by
  intro _
  refine ⟨_, rfl, by simp, fun j u hu => ?_⟩
  rw [add_off, cell_of_row _ _ j cs t (0, 0) (heap_alloc_new w _), ← hu]
  simp
def enuB (es : List En) (t : Int) : Bool := decide (3 ≤ t) && decide (t - 3 < es.length)
def valB (es : List En) (t : Int) : Bool := t == 1 || t == 2 || enuB es t
abbrev sFalse : ByteArray := ⟨#[102, 97, 108, 115, 101]⟩
abbrev sTrue : ByteArray := ⟨#[116, 114, 117, 101]⟩
def tagsOf (es : List En) (t : Int) : List ByteArray := if t = 1 then [sFalse, sTrue] else if enuB es t then ((es[(t - 3).toNat]?).map (·.tags)).getD [] else []
def sizeT (es : List En) (t : Int) : Int := if t = 2 then 65536 else (tagsOf es t).length
def hasB (es : List En) (t v : Int) : Bool := if t = 2 then decide (-32768 ≤ v) && decide (v ≤ 32767) else decide (0 ≤ v) && decide (v < sizeT es t)
def NewS (l : List ByteArray) (w : World) (e : Ending) (w' : World) : Prop := ∃ A c, e = .returned (.slice A l.length c) ∧ Rd w' w'.heap.size A (ss l) ∧ Below w.heap.size w w'
theorem enum_any (A : Option Addr) (c : Nat) (es : List En) (t : Int) (w : World) (hl : es.length ≤ 9223372036854775807) (hti : t ≤ 9223372036854775807) :
    Calls Tryd.prog 42 #[.slice A es.length c, .int .i64 t] w fun e w' => e = .returned (.bool (enuB es t)) ∧ w = w' := by
  by_cases h3 : 3 ≤ t
  · by_cases hl : t - 3 < es.length
    all_goals
      go_enter Tryd.func42, Tryd.ntmps42
      go_wp2
      go_ret
      exact ⟨ret_bool (by simp [enuB, *]; try omega), rfl⟩
  · have e3 : decide (3 ≤ t) = false := by simpa using h3
    go_enter Tryd.func42, Tryd.ntmps42
    go_wp2
    go_ret
    exact ⟨ret_bool (by simp [enuB, *]; try omega), rfl⟩
theorem valid_any (A : Option Addr) (c : Nat) (es : List En) (t : Int) (w : World) (hl : es.length ≤ 9223372036854775807) (hti : t ≤ 9223372036854775807) :
    Calls Tryd.prog 44 #[.slice A es.length c, .int .i64 t] w fun e w' => e = .returned (.bool (valB es t)) ∧ w = w' := by
  by_cases h1 : t = 1
  · subst h1
    go_enter Tryd.func44, Tryd.ntmps44
    go_wp2
    go_ret
    exact ⟨rfl, rfl⟩
  by_cases h2 : t = 2
  · subst h2
    go_enter Tryd.func44, Tryd.ntmps44
    go_wp2
    go_ret
    exact ⟨rfl, rfl⟩
  have e1 : (t == 1) = false := by simp [h1]
  have e2 : (t == 2) = false := by simp [h2]
  have hv : valB es t = enuB es t := by simp [valB, e1, e2]
  rw [hv]
  clear h1 h2 hv
  go_enter Tryd.func44, Tryd.ntmps44
  go_wp2_with (go_at_call 42; refine (enum_any _ _ es _ _ hl hti).mono ?_; rintro e w' ⟨rfl, rfl⟩)
  go_ret
  exact ⟨rfl, rfl⟩
theorem known_any (A : Option Addr) (c : Nat) (es : List En) (t : Int) (w : World) (hl : es.length ≤ 9223372036854775807) (hti : t ≤ 9223372036854775807) :
    Calls Tryd.prog 43 #[.slice A es.length c, .int .i64 t] w fun e w' => e = .returned (.bool (valB es t)) ∧ w = w' := by
  by_cases h1 : t = 1
  · subst h1
    go_enter Tryd.func43, Tryd.ntmps43
    go_wp2
    go_ret
    exact ⟨rfl, rfl⟩
  by_cases h2 : t = 2
  · subst h2
    go_enter Tryd.func43, Tryd.ntmps43
    go_wp2
    go_ret
    exact ⟨rfl, rfl⟩
  have e1 : (t == 1) = false := by simp [h1]
  have e2 : (t == 2) = false := by simp [h2]
  have hv : valB es t = enuB es t := by simp [valB, e1, e2]
  rw [hv]
  clear h1 h2 hv
  by_cases h3 : 3 ≤ t
  · by_cases hl : t - 3 < es.length
    all_goals
      go_enter Tryd.func43, Tryd.ntmps43
      go_wp2
      go_ret
      exact ⟨ret_bool (by simp [enuB, *]; try omega), rfl⟩
  · have e3 : decide (3 ≤ t) = false := by simpa using h3
    go_enter Tryd.func43, Tryd.ntmps43
    go_wp2
    go_ret
    exact ⟨ret_bool (by simp [enuB, *]; try omega), rfl⟩
theorem tagsOf_enu {es : List En} {k : Nat} {e : En} (he : es[k]? = some e) : tagsOf es ((k : Int) + 3) = e.tags := by
  have hk : k < es.length := (List.getElem?_eq_some_iff.1 he).1
  rw [tagsOf, if_neg (by omega), if_pos (by simp [enuB]; omega), show ((k : Int) + 3 - 3).toNat = k by omega, he]
  rfl
theorem tags_any (A : Option Addr) (c : Nat) (es : List En) (t : Int) (w : World) (hA : RdE w w.heap.size A es) (hl : es.length ≤ 9223372036854775807) (hti : t ≤ 9223372036854775807) :
    Calls Tryd.prog 40 #[.slice A es.length c, .int .i64 t] w (NewS (tagsOf es t) w) := by
  by_cases h1 : t = 1
  · subst h1
    go_enter Tryd.func40, Tryd.ntmps40
    go_wp2
    go_ret
    exact ⟨_, _, rfl, rd_alloc w #[.string sFalse, .string sTrue] _, bel_box _⟩
  have e1 : (t == 1) = false := by simp [h1]
  by_cases h3 : enuB es t = true
  · obtain ⟨k, rfl⟩ : ∃ k : Nat, t = k + 3 := ⟨(t - 3).toNat, by simp [enuB] at h3; omega⟩
    have hk : k < es.length := by simp [enuB] at h3; omega
    obtain ⟨ad, e, rfl, hb, he, hn, ht, hr⟩ := hA.at_ hk
    have HT := Lib.hid (tagsOf_enu he)
    have KE := Lib.hid (fun A c w => enum_any A c es ((k : Int) + 3) w hl hti)
    clear h1 hti
    go_enter Tryd.func40, Tryd.ntmps40
    go_wp2_with (go_at_call 42; refine (KE.out _ _ _).mono ?_; rintro e w' ⟨rfl, rfl⟩; rw [h3])
    go_ret
    refine ⟨e.A, e.c, ?_, ?_, Below.refl _ _⟩
    · rw [HT.out]; rfl
    · rw [HT.out]; exact hr
  · rw [Bool.not_eq_true] at h3
    have ht : tagsOf es t = [] := by rw [tagsOf, if_neg h1, if_neg (by simp [h3])]
    rw [ht]
    clear h1 ht
    go_enter Tryd.func40, Tryd.ntmps40
    go_wp2_with (go_at_call 42; refine (enum_any _ _ es _ _ hl hti).mono ?_; rintro e w' ⟨rfl, rfl⟩; rw [h3])
    go_ret
    exact ⟨none, 0, rfl, Rd.nil _ _ _, Below.refl _ _⟩
theorem size_any (A : Option Addr) (c : Nat) (es : List En) (t : Int) (w : World) (hA : RdE w w.heap.size A es) (hl : es.length ≤ 9223372036854775807) (hti : t ≤ 9223372036854775807) :
    Calls Tryd.prog 13 #[.slice A es.length c, .int .i64 t] w (Bel (.int .i64 (sizeT es t)) w) := by
  by_cases h1 : t = 2
  · subst h1
    go_enter Tryd.func13, Tryd.ntmps13
    go_wp2
    go_ret
    exact ⟨rfl, Below.refl _ _⟩
  · have e1 : (t == 2) = false := by simp [h1]
    have KT := Lib.hid (tags_any A c es t w hA hl hti)
    have KS : sizeT es t = (tagsOf es t).length := by rw [sizeT, if_neg h1]
    rw [KS]
    clear h1 KS hA hti
    go_enter Tryd.func13, Tryd.ntmps13
    go_wp2_with (go_at_call 40; refine KT.out.mono ?_; rintro e w' ⟨A', c', rfl, hr, hb⟩)
    go_ret
    exact ⟨rfl, hb⟩
theorem rsize_any (A : Option Addr) (c : Nat) (es : List En) (t : Int) (w : World) (hA : RdE w w.heap.size A es) (hl : es.length ≤ 9223372036854775807) (hti : t ≤ 9223372036854775807) :
    Calls Tryd.prog 14 #[.slice A es.length c, .int .i64 t] w (Bel (.int .i64 (sizeT es t)) w) := by
  by_cases h1 : t = 1
  · subst h1
    go_enter Tryd.func14, Tryd.ntmps14
    go_wp2
    go_ret
    exact ⟨rfl, Below.refl _ _⟩
  by_cases h2 : t = 2
  · subst h2
    go_enter Tryd.func14, Tryd.ntmps14
    go_wp2
    go_ret
    exact ⟨rfl, Below.refl _ _⟩
  have e1 : (t == 1) = false := by simp [h1]
  have e2 : (t == 2) = false := by simp [h2]
  by_cases h3 : 3 ≤ t
  · by_cases h4 : t - 3 < es.length
    · obtain ⟨k, rfl⟩ : ∃ k : Nat, t = k + 3 := ⟨(t - 3).toNat, by omega⟩
      have hk : k < es.length := by omega
      obtain ⟨ad, e, rfl, hb, he, hn, ht, hr⟩ := hA.at_ hk
      have HT := Lib.hid (tagsOf_enu he)
      have hs : sizeT es ((k : Int) + 3) = e.tags.length := by rw [sizeT, if_neg h2, HT.out]
      rw [hs]
      clear h1 h2 h4 hs hti
      go_enter Tryd.func14, Tryd.ntmps14
      go_wp2
      go_ret
      exact ⟨rfl, Below.refl _ _⟩
    · have hs : sizeT es t = 0 := by rw [sizeT, if_neg h2, tagsOf, if_neg h1, if_neg (by simp [enuB]; omega)]; rfl
      rw [hs]
      clear hs h1 h2
      go_enter Tryd.func14, Tryd.ntmps14
      go_wp2
      go_ret
      exact ⟨rfl, Below.refl _ _⟩
  · have hs : sizeT es t = 0 := by rw [sizeT, if_neg h2, tagsOf, if_neg h1, if_neg (by simp [enuB]; omega)]; rfl
    rw [hs]
    have e3 : decide (t < 3) = true := by simpa using h3
    clear hs h1 h2
    go_enter Tryd.func14, Tryd.ntmps14
    go_wp2
    go_ret
    exact ⟨rfl, Below.refl _ _⟩
theorem has_any (A : Option Addr) (c : Nat) (es : List En) (t v : Int) (w : World) (hA : RdE w w.heap.size A es) (hl : es.length ≤ 9223372036854775807) (hti : t ≤ 9223372036854775807) :
    Calls Tryd.prog 15 #[.slice A es.length c, .int .i64 t, .int .i64 v] w (Bel (.bool (hasB es t v)) w) := by
  by_cases h1 : t = 2
  · subst h1
    have hs : hasB es 2 v = (decide (-32768 ≤ v) && decide (v ≤ 32767)) := rfl
    rw [hs]
    clear hs
    go_enter Tryd.func15, Tryd.ntmps15
    go_wp2_with (go_at_call 41; refine (in_any _ _).mono ?_; rintro e w' ⟨rfl, rfl⟩)
    go_ret
    exact ⟨rfl, Below.refl _ _⟩
  · have e1 : (t == 2) = false := by simp [h1]
    have KT := Lib.hid (size_any A c es t w hA hl hti)
    have KS : hasB es t v = (decide (0 ≤ v) && decide (v < sizeT es t)) := by rw [hasB, if_neg h1]
    rw [KS]
    clear h1 KS hA hti
    by_cases h0 : 0 ≤ v
    · go_enter Tryd.func15, Tryd.ntmps15
      go_wp2_with (go_at_call 13; refine KT.out.mono ?_; rintro e w' ⟨rfl, hb⟩)
      go_ret
      exact ⟨ret_bool (by simp [h0]), hb⟩
    · have e0 : decide (0 ≤ v) = false := by simpa using h0
      go_enter Tryd.func15, Tryd.ntmps15
      go_wp2
      go_ret
      exact ⟨ret_bool (by simp [h0]), Below.refl _ _⟩
theorem rhas_any (A : Option Addr) (c : Nat) (es : List En) (t v : Int) (w : World) (hA : RdE w w.heap.size A es) (hl : es.length ≤ 9223372036854775807) (hti : t ≤ 9223372036854775807) :
    Calls Tryd.prog 16 #[.slice A es.length c, .int .i64 t, .int .i64 v] w (Bel (.bool (hasB es t v)) w) := by
  by_cases h1 : t = 2
  · subst h1
    have hs : hasB es 2 v = (decide (-32768 ≤ v) && decide (v ≤ 32767)) := rfl
    rw [hs]
    clear hs
    go_enter Tryd.func16, Tryd.ntmps16
    go_wp2
    all_goals go_ret
    · exact ⟨ret_bool (by simp [*]), Below.refl _ _⟩
    · exact ⟨ret_bool (by simp [*]; try omega), Below.refl _ _⟩
  · have e1 : (t == 2) = false := by simp [h1]
    have KT := Lib.hid (rsize_any A c es t w hA hl hti)
    have KS : hasB es t v = (decide (0 ≤ v) && decide (v < sizeT es t)) := by rw [hasB, if_neg h1]
    rw [KS]
    clear h1 KS hA hti
    by_cases h0 : 0 ≤ v
    · go_enter Tryd.func16, Tryd.ntmps16
      go_wp2_with (go_at_call 14; refine KT.out.mono ?_; rintro e w' ⟨rfl, hb⟩)
      go_ret
      exact ⟨ret_bool (by simp [h0]), hb⟩
    · have e0 : decide (0 ≤ v) = false := by simpa using h0
      go_enter Tryd.func16, Tryd.ntmps16
      go_wp2
      go_ret
      exact ⟨ret_bool (by simp [h0]), Below.refl _ _⟩
abbrev sBool : ByteArray := ⟨#[98, 111, 111, 108]⟩
abbrev sInt : ByteArray := ⟨#[105, 110, 116]⟩
def nameT (es : List En) (t : Int) : ByteArray := if t = 1 then sBool else if t = 2 then sInt else if enuB es t then ((es[(t - 3).toNat]?).map (·.name)).getD ⟨#[]⟩ else ⟨#[]⟩
theorem nameT_enu {es : List En} {k : Nat} {e : En} (he : es[k]? = some e) : nameT es ((k : Int) + 3) = e.name := by
  have hk : k < es.length := (List.getElem?_eq_some_iff.1 he).1
  rw [nameT, if_neg (by omega), if_neg (by omega), if_pos (by simp [enuB]; omega), show ((k : Int) + 3 - 3).toNat = k by omega, he]
  rfl
theorem name_any (A : Option Addr) (c : Nat) (es : List En) (t : Int) (w : World) (hA : RdE w w.heap.size A es) (hl : es.length ≤ 9223372036854775807) (hti : t ≤ 9223372036854775807) :
    Calls Tryd.prog 17 #[.slice A es.length c, .int .i64 t] w (Bel (.tuple #[.string (nameT es t), .bool (valB es t)]) w) := by
  by_cases h1 : t = 1
  · subst h1
    go_enter Tryd.func17, Tryd.ntmps17
    go_wp2
    go_ret2
    exact ⟨rfl, Below.refl _ _⟩
  by_cases h2 : t = 2
  · subst h2
    go_enter Tryd.func17, Tryd.ntmps17
    go_wp2
    go_ret2
    exact ⟨rfl, Below.refl _ _⟩
  have e1 : (t == 1) = false := by simp [h1]
  have e2 : (t == 2) = false := by simp [h2]
  have hv : valB es t = enuB es t := by simp [valB, e1, e2]
  rw [hv]
  by_cases h3 : enuB es t = true
  · obtain ⟨k, rfl⟩ : ∃ k : Nat, t = k + 3 := ⟨(t - 3).toNat, by simp [enuB] at h3; omega⟩
    have hk : k < es.length := by simp [enuB] at h3; omega
    obtain ⟨ad, e, rfl, hb, he, hn, ht, hr⟩ := hA.at_ hk
    have HT := Lib.hid (nameT_enu he)
    have KE := Lib.hid (fun A c w => enum_any A c es ((k : Int) + 3) w hl hti)
    rw [h3, HT.out]
    clear h1 h2 hti hv
    go_enter Tryd.func17, Tryd.ntmps17
    go_wp2_with (go_at_call 42; refine (KE.out _ _ _).mono ?_; rintro e w' ⟨rfl, rfl⟩; rw [h3])
    go_ret2
    exact ⟨rfl, Below.refl _ _⟩
  · rw [Bool.not_eq_true] at h3
    have ht : nameT es t = ⟨#[]⟩ := by rw [nameT, if_neg h1, if_neg h2, if_neg (by simp [h3])]
    rw [ht, h3]
    clear h1 h2 ht hv
    go_enter Tryd.func17, Tryd.ntmps17
    go_wp2_with (go_at_call 42; refine (enum_any _ _ es _ _ hl hti).mono ?_; rintro e w' ⟨rfl, rfl⟩; rw [h3])
    go_ret2
    exact ⟨rfl, Below.refl _ _⟩
theorem rname_any (A : Option Addr) (c : Nat) (es : List En) (t : Int) (w : World) (hA : RdE w w.heap.size A es) (hl : es.length ≤ 9223372036854775807) (hti : t ≤ 9223372036854775807) :
    Calls Tryd.prog 18 #[.slice A es.length c, .int .i64 t] w (Bel (.tuple #[.string (nameT es t), .bool (valB es t)]) w) := by
  have KV := Lib.hid (fun A c w => known_any A c es t w hl hti)
  by_cases hv : valB es t = true
  · rw [hv]
    by_cases h1 : t = 1
    · subst h1
      go_enter Tryd.func18, Tryd.ntmps18
      go_wp2_with (go_at_call 43; refine (KV.out _ _ _).mono ?_; rintro e w' ⟨rfl, rfl⟩; rw [hv])
      go_ret2
      exact ⟨rfl, Below.refl _ _⟩
    by_cases h2 : t = 2
    · subst h2
      go_enter Tryd.func18, Tryd.ntmps18
      go_wp2_with (go_at_call 43; refine (KV.out _ _ _).mono ?_; rintro e w' ⟨rfl, rfl⟩; rw [hv])
      go_ret2
      exact ⟨rfl, Below.refl _ _⟩
    have e1 : (t == 1) = false := by simp [h1]
    have e2 : (t == 2) = false := by simp [h2]
    have h3 : enuB es t = true := by simpa [valB, e1, e2] using hv
    obtain ⟨k, rfl⟩ : ∃ k : Nat, t = k + 3 := ⟨(t - 3).toNat, by simp [enuB] at h3; omega⟩
    have hk : k < es.length := by simp [enuB] at h3; omega
    obtain ⟨ad, e, rfl, hb, he, hn, ht, hr⟩ := hA.at_ hk
    have HT := Lib.hid (nameT_enu he)
    rw [HT.out]
    clear h1 h2 hti h3
    go_enter Tryd.func18, Tryd.ntmps18
    go_wp2_with (go_at_call 43; refine (KV.out _ _ _).mono ?_; rintro e w' ⟨rfl, rfl⟩; rw [hv])
    go_ret2
    exact ⟨rfl, Below.refl _ _⟩
  · rw [Bool.not_eq_true] at hv
    have ht : nameT es t = ⟨#[]⟩ := by
      have : t ≠ 1 ∧ t ≠ 2 ∧ enuB es t = false := by simpa [valB, and_assoc] using hv
      rw [nameT, if_neg this.1, if_neg this.2.1, if_neg (by simp [this.2.2])]
    rw [ht, hv]
    clear ht
    go_enter Tryd.func18, Tryd.ntmps18
    go_wp2_with (go_at_call 43; refine (KV.out _ _ _).mono ?_; rintro e w' ⟨rfl, rfl⟩; rw [hv])
    go_ret2
    exact ⟨rfl, Below.refl _ _⟩
end Go.Proofs.YtjlkgejkgpnnkaaDoor
