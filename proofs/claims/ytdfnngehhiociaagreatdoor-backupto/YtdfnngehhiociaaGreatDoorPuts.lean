import Derived.Test.YtdfnngehhiociaaGreatDoorSets
import Derived.Test.YtdfnngehhiociaaGreatDoorShelf
namespace Go.Proofs.YtdfnngehhiociaaGreatDoor
open Go.RowKit Go.Maps Go.WideMaps

/-- A string's bytes. -/
abbrev bs (s : ByteArray) : Bs := s.data.toList

theorem clone_any (s : ByteArray) (w : World) (hlim : s.size ≤ 281474976710656) : Calls Tryz.prog 56 #[.string s] w fun e w' => e = .returned (.string s) ∧ w.grownBy w' none := by
  go_enter Tryz.func56, Tryz.ntmps56
  go_wp2_with (go_at_call 77; refine (Tryz.stringslite_Clone _ _ hlim).mono ?_; rintro e w' ⟨rfl, hb⟩)
  go_ret
  exact ⟨rfl, below_grownBy hb _⟩

theorem has_any (b : Nat) (L : List Bs) (s : ByteArray) (w : World) (h : IsSet w b L) (hs : s.size ≤ maxLen) :
    Calls Tryz.prog 28 #[.map (some b), .string s] w fun e w' => e = .returned (.bool (decide (bs s ∈ L))) ∧ w.grownBy w' none := by
  obtain ⟨D, h1, h2, h3, h4⟩ := h
  have hb : has D (.string s.data.toList) = decide (bs s ∈ L) := by rw [Bool.eq_iff_iff, h3]; simp
  have hkey := keyOf_string_mk (P := Tryz.prog) Tryz.underlying9 hs
  go_enter Tryz.func28, Tryz.ntmps28
  go_wp2_with (first
    | (at_lookup; refine wpList_lookup_own_unit _ rfl _ _ 53 rfl 9 79 law9 Tryz.underlying53 (zero72 _) b L.length D rfl h1 _ _ rfl hkey ?_)
    | go_in)
  go_ret
  exact ⟨rfl, grownBy_none_alloc _ _⟩

theorem has_nil (s : ByteArray) (w : World) (hs : s.size ≤ maxLen) :
    Calls Tryz.prog 28 #[.map none, .string s] w fun e w' => e = .returned (.bool false) ∧ w.grownBy w' none := by
  have hkey := keyOf_string_mk (P := Tryz.prog) Tryz.underlying9 hs
  have hl := Maps.look_nil (P := Tryz.prog) (w := w) true law9 Tryz.underlying53 (zero72 w) hkey
  simp only [if_true] at hl
  go_enter Tryz.func28, Tryz.ntmps28
  go_wp2
  go_ret
  exact ⟨rfl, grownBy_none_alloc _ _⟩

/-- A word that is not there comes. -/
theorem put_any (b : Nat) (L : List Bs) (s : ByteArray) (w : World) (h : IsSet w b L) (hn : bs s ∉ L) (hs : s.size ≤ 281474976710656) (hL : L.length < 281474976710656) :
    Calls Tryz.prog 46 #[.map (some b), .string s] w fun e w' => e = .returned (.tuple #[]) ∧ IsSet w' b (L ++ [bs s]) ∧ w.grownBy w' (some b) := by
  obtain ⟨D, h1, h2, h3, h4⟩ := h
  have hkey := keyOf_string_mk (P := Tryz.prog) Tryz.underlying9 (s := s) (by unfold maxLen; omega)
  go_enter Tryz.func46, Tryz.ntmps46
  go_wp2_with (first
    | (go_at_call 56; refine (clone_any _ _ hs).mono ?_; rintro e w' ⟨rfl, hg⟩)
    | (at_mapUpdate; refine wpList_mapUpdate_own _ rfl _ _ _ 53 rfl 9 79 law9 Tryz.underlying53 (unitElem (H := Unit)) b L.length D rfl (h1.kept hg (by simp)) (by unfold maxLen; omega) _ _ _ rfl rfl hkey _ [] unitElem_mk ?_; intro w1 hown1 hgrow1)
    | go_in)
  go_end0
  have hnot : has D (.string (bs s)) = false := by
    cases hc : has D (.string (bs s)) with
    | false => rfl
    | true => exact absurd ((h3 _).1 hc) hn
  have hsz : Maps.size (D.put (.string (bs s)) (.agg [])) = (L ++ [bs s]).length := by
    rw [size_put (h1.tidy law9), hnot]; simp [h4]
  refine ⟨rfl, ⟨_, ownsMap_tight hown1 (Nat.le_of_eq hsz), ?_, ?_, hsz⟩, gtrans (hg.but _) hgrow1⟩
  · exact List.nodup_append.2 ⟨h2, by simp, fun a ha c hc => by simp at hc; subst hc; exact fun e => hn (e ▸ ha)⟩
  · intro t
    by_cases ht : t = bs s
    · subst ht
      have := has_put_same (D := D) (k := .string (bs s)) h1.isMap (by simp [WideAt.IsKeyLit]) (.agg [])
      simp [this]
    · have hne : Lit.string t ≠ Lit.string (bs s) := fun e => ht (by injection e)
      rw [has_put_other hne, h3]
      simp [ht]

end Go.Proofs.YtdfnngehhiociaaGreatDoor
