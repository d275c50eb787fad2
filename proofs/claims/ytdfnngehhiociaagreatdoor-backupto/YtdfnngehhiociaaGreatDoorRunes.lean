import Derived.Lib.ValidLaws
import Derived.Lib.MapLaws
import Derived.Lib.RuneCount
import Derived.Lib.TrimUEq
namespace Go.Proofs.YtdfnngehhiociaaGreatDoor
open Go.Lib

/-- The runes of a text, so many at the most. -/
def runesF : Nat → List UInt8 → List Int
  | 0, _ => []
  | n + 1, l => if l = [] then [] else ((decodeL l).1 : Int) :: runesF n (l.drop (decodeL l).2)

/-- The runes of a text. -/
def runesD (l : List UInt8) : List Int := runesF l.length l

theorem runesF_more : ∀ (n m : Nat) (l : List UInt8), l.length ≤ n → l.length ≤ m → runesF n l = runesF m l
  | 0, 0, _, _, _ => rfl
  | 0, m + 1, l, h, _ => by
    have : l = [] := List.length_eq_zero_iff.1 (by omega)
    subst this; simp [runesF]
  | n + 1, 0, l, _, h => by
    have : l = [] := List.length_eq_zero_iff.1 (by omega)
    subst this; simp [runesF]
  | n + 1, m + 1, l, h, h' => by
    simp only [runesF]
    by_cases hl : l = []
    · simp [hl]
    · rw [if_neg hl, if_neg hl]
      have hw := decodeL_width l
      have hp : 0 < l.length := List.length_pos_iff.2 hl
      rw [runesF_more n m _ (by rw [List.length_drop]; omega) (by rw [List.length_drop]; omega)]

theorem runesD_nil : runesD [] = [] := rfl
theorem runesD_step (l : List UInt8) (hne : l ≠ []) : runesD l = ((decodeL l).1 : Int) :: runesD (l.drop (decodeL l).2) := by
  have hp : 0 < l.length := List.length_pos_iff.2 hne
  have hw := decodeL_width l
  unfold runesD
  obtain ⟨n, hn⟩ : ∃ n, l.length = n + 1 := ⟨l.length - 1, by omega⟩
  rw [hn]
  simp only [runesF]
  rw [if_neg hne, runesF_more n _ _ (by rw [List.length_drop]; omega) (Nat.le_refl _)]

/-- What UTF-8 says is what its runes say. -/
theorem flat_runes : ∀ (n : Nat) (l : List UInt8), l.length ≤ n → validD l = true → (runesD l).flatMap encodeRune = l
  | 0, l, h, _ => by
    have : l = [] := List.length_eq_zero_iff.1 (by omega)
    subst this; rfl
  | n + 1, l, h, hv => by
    by_cases hne : l = []
    · subst hne; rfl
    · rw [validD_step l hne] at hv
      by_cases hbad : (decodeL l).1 = 65533 ∧ (decodeL l).2 = 1
      · rw [if_pos hbad] at hv; cases hv
      · rw [if_neg hbad] at hv
        have hw := decodeL_width l
        have hp : 0 < l.length := List.length_pos_iff.2 hne
        have ih := flat_runes n (l.drop (decodeL l).2) (by rw [List.length_drop]; omega) hv
        rw [runesD_step l hne, List.flatMap_cons, ih, encode_decode l hne hbad, List.take_append_drop]

theorem runes_inj {a b : List UInt8} (ha : validD a = true) (hb : validD b = true) (h : runesD a = runesD b) : a = b := by
  rw [← flat_runes _ a (Nat.le_refl _) ha, ← flat_runes _ b (Nat.le_refl _) hb, h]

theorem runes_range : ∀ (n : Nat) (l : List UInt8), ∀ r ∈ runesF n l, 0 ≤ r ∧ r ≤ 1114111
  | 0, _, r, h => by cases h
  | n + 1, l, r, h => by
    simp only [runesF] at h
    by_cases hl : l = []
    · simp [hl] at h
    · rw [if_neg hl] at h
      rcases List.mem_cons.1 h with h | h
      · have := decodeL_rune l; omega
      · exact runes_range n _ r h

theorem count_runesF (s : ByteArray) : ∀ (n pos : Nat), runeCountFrom s n pos = (runesF n (s.data.toList.drop pos)).length
  | 0, _ => rfl
  | n + 1, pos => by
    simp only [runeCountFrom, runesF]
    by_cases h : pos < s.size
    · have hne : s.data.toList.drop pos ≠ [] := by
        intro e
        have h2 : s.data.toList.length ≤ pos := List.drop_eq_nil_iff.1 e
        have h3 : s.data.toList.length = s.size := Array.length_toList
        omega
      rw [if_pos h, if_neg hne, decodeL_drop, List.drop_drop, count_runesF s n]
      simp [Nat.add_comm]
    · have he : s.data.toList.drop pos = [] := List.drop_eq_nil_iff.2 (by have h3 : s.data.toList.length = s.size := Array.length_toList; omega)
      rw [if_neg h, if_pos he]; rfl

theorem count_runes (s : ByteArray) : runeCount s = (runesD s.data.toList).length := by
  unfold runeCount
  rw [count_runesF, List.drop_zero]
  unfold runesD
  rw [show s.data.toList.length = s.size from Array.length_toList]

end Go.Proofs.YtdfnngehhiociaaGreatDoor
