import Derived.Test.YtdfnngehhiociaaGreatDoorRunes
namespace Go.Proofs.YtdfnngehhiociaaGreatDoor

/-- How far one rune is from another one. -/
def chgN (a b : Int) : Nat := if a = b then 0 else 1
theorem chgN_comm (a b : Int) : chgN a b = chgN b a := by
  unfold chgN; by_cases h : a = b
  · subst h; rfl
  · rw [if_neg h, if_neg (fun e => h e.symm)]

/-- One row more: a: the word's runes; before, here: the last two rows; last, r: the other word's last two runes. -/
def stepRow (a : List Int) (before here : Nat → Nat) (last r : Int) : Nat → Nat
  | 0 => here 0 + 1
  | i + 1 =>
    if 0 < i ∧ a.getD i 0 = last ∧ a.getD (i - 1) 0 = r then
      min (min (min (stepRow a before here last r i + 1) (here (i + 1) + 1)) (here i + chgN (a.getD i 0) r)) (before (i - 1) + 1)
    else min (min (stepRow a before here last r i + 1) (here (i + 1) + 1)) (here i + chgN (a.getD i 0) r)

/-- The rows, one after the other. -/
def runRows (a : List Int) : (Nat → Nat) → (Nat → Nat) → Int → List Int → Nat
  | _, here, _, [] => here a.length
  | before, here, last, r :: rs => runRows a here (stepRow a before here last r) r rs

/-- How far two words are, by their runes. -/
def far (a b : List Int) : Nat := runRows a (fun _ => 0) id 0 b

/-- What stands behind the first j runes. -/
def rowsAt (a b : List Int) : Nat → (Nat → Nat) × (Nat → Nat) × Int
  | 0 => (fun _ => 0, id, 0)
  | j + 1 => ((rowsAt a b j).2.1, stepRow a (rowsAt a b j).1 (rowsAt a b j).2.1 (rowsAt a b j).2.2 (b.getD j 0), b.getD j 0)

def dis (a b : List Int) (i j : Nat) : Nat := (rowsAt a b j).2.1 i

theorem runRows_at (a b : List Int) : ∀ (n j : Nat), j + n = b.length → runRows a (rowsAt a b j).1 (rowsAt a b j).2.1 (rowsAt a b j).2.2 (b.drop j) = dis a b a.length b.length
  | 0, j, h => by
    have : j = b.length := by omega
    subst this
    simp [runRows, dis]
  | n + 1, j, h => by
    have hj : j < b.length := by omega
    rw [List.drop_eq_getElem_cons hj]
    have hb : b[j] = b.getD j 0 := by simp [List.getD, hj]
    rw [hb]
    exact runRows_at a b n (j + 1) (by omega)

theorem far_eq (a b : List Int) : far a b = dis a b a.length b.length := by
  have := runRows_at a b b.length 0 (by omega)
  simpa [far, rowsAt] using this

theorem dis_left (a b : List Int) : ∀ j, dis a b 0 j = j
  | 0 => rfl
  | j + 1 => by
    have : dis a b 0 (j + 1) = dis a b 0 j + 1 := rfl
    rw [this, dis_left a b j]
theorem dis_right (a b : List Int) (i : Nat) : dis a b i 0 = i := rfl

/-- The two runes are exchanged. -/
def exch (a b : List Int) (i j : Nat) : Prop := 0 < i ∧ 0 < j ∧ a.getD i 0 = b.getD (j - 1) 0 ∧ a.getD (i - 1) 0 = b.getD j 0

theorem exch_comm (a b : List Int) (i j : Nat) : exch a b i j ↔ exch b a j i := by
  unfold exch
  constructor
  · rintro ⟨h1, h2, h3, h4⟩; exact ⟨h2, h1, h4.symm, h3.symm⟩
  · rintro ⟨h1, h2, h3, h4⟩; exact ⟨h2, h1, h4.symm, h3.symm⟩

def three (a b : List Int) (i j : Nat) : Nat := min (min (dis a b i (j + 1) + 1) (dis a b (i + 1) j + 1)) (dis a b i j + chgN (a.getD i 0) (b.getD j 0))

theorem dis_step (a b : List Int) (ha : ∀ r ∈ a, r ≠ 0) (i j : Nat) (hi : i < a.length) :
    (exch a b i j → dis a b (i + 1) (j + 1) = min (three a b i j) (dis a b (i - 1) (j - 1) + 1)) ∧ (¬ exch a b i j → dis a b (i + 1) (j + 1) = three a b i j) := by
  have hne : a.getD i 0 ≠ 0 := by
    have : a.getD i 0 = a[i] := by simp [List.getD, hi]
    rw [this]; exact ha _ (List.getElem_mem hi)
  cases j with
  | zero =>
    refine ⟨fun h => absurd h.2.1 (by omega), fun _ => ?_⟩
    show stepRow _ _ _ _ _ (i + 1) = _
    unfold stepRow
    rw [if_neg]
    · rfl
    · rintro ⟨_, h, _⟩; exact hne h
  | succ j =>
    constructor
    · intro h
      show stepRow _ _ _ _ _ (i + 1) = _
      unfold stepRow
      rw [if_pos]
      · rfl
      · exact ⟨h.1, h.2.2.1, h.2.2.2⟩
    · intro h
      show stepRow _ _ _ _ _ (i + 1) = _
      unfold stepRow
      rw [if_neg]
      · rfl
      · rintro ⟨h1, h2, h3⟩; exact h ⟨h1, by omega, h2, h3⟩

theorem dis_comm (a b : List Int) (ha : ∀ r ∈ a, r ≠ 0) (hb : ∀ r ∈ b, r ≠ 0) : ∀ (n i j : Nat), i + j ≤ n → i ≤ a.length → j ≤ b.length → dis a b i j = dis b a j i
  | _, 0, j, _, _, _ => by rw [dis_left, dis_right]
  | _, i + 1, 0, _, _, _ => by rw [dis_left, dis_right]
  | 0, i + 1, j + 1, h, _, _ => by omega
  | n + 1, i + 1, j + 1, h, h1, h2 => by
    have e1 := dis_comm a b ha hb n i (j + 1) (by omega) (by omega) h2
    have e2 := dis_comm a b ha hb n (i + 1) j (by omega) h1 (by omega)
    have e3 := dis_comm a b ha hb n i j (by omega) (by omega) (by omega)
    have e4 := dis_comm a b ha hb n (i - 1) (j - 1) (by omega) (by omega) (by omega)
    have hthree : three a b i j = three b a j i := by
      unfold three
      rw [e1, e2, e3, chgN_comm]
      congr 1
      exact Nat.min_comm _ _
    obtain ⟨p1, p2⟩ := dis_step a b ha i j (by omega)
    obtain ⟨q1, q2⟩ := dis_step b a hb j i (by omega)
    by_cases hx : exch a b i j
    · rw [p1 hx, q1 ((exch_comm a b i j).1 hx), hthree, e4]
    · rw [p2 hx, q2 (fun h => hx ((exch_comm a b i j).2 h)), hthree]

theorem far_comm (a b : List Int) (ha : ∀ r ∈ a, r ≠ 0) (hb : ∀ r ∈ b, r ≠ 0) : far a b = far b a := by
  rw [far_eq, far_eq]
  exact dis_comm a b ha hb _ _ _ (Nat.le_refl _) (Nat.le_refl _) (Nat.le_refl _)

theorem dis_zero (a b : List Int) (ha : ∀ r ∈ a, r ≠ 0) : ∀ (i j : Nat), i ≤ a.length → (dis a b i j = 0 ↔ i = j ∧ ∀ k, k < i → a.getD k 0 = b.getD k 0)
  | 0, j, _ => by rw [dis_left]; simp; omega
  | i + 1, 0, _ => by rw [dis_right]; simp
  | i + 1, j + 1, h => by
    have ih := dis_zero a b ha i j (by omega)
    obtain ⟨p1, p2⟩ := dis_step a b ha i j (by omega)
    have hz : dis a b (i + 1) (j + 1) = 0 ↔ dis a b i j + chgN (a.getD i 0) (b.getD j 0) = 0 := by
      by_cases hx : exch a b i j
      · rw [p1 hx]; unfold three; omega
      · rw [p2 hx]; unfold three; omega
    rw [hz]
    have hch : chgN (a.getD i 0) (b.getD j 0) = 0 ↔ a.getD i 0 = b.getD j 0 := by
      unfold chgN; by_cases e : a.getD i 0 = b.getD j 0
      · rw [if_pos e]; exact ⟨fun _ => e, fun _ => rfl⟩
      · rw [if_neg e]; exact ⟨fun h => by omega, fun h => absurd h e⟩
    constructor
    · intro h0
      obtain ⟨rfl, hk⟩ := ih.1 (by omega)
      have hc := hch.1 (by omega)
      refine ⟨rfl, fun k hk' => ?_⟩
      by_cases hki : k = i
      · subst hki; exact hc
      · exact hk k (by omega)
    · rintro ⟨e, hk⟩
      obtain rfl : i = j := by omega
      have h1 := ih.2 ⟨rfl, fun k hk' => hk k (by omega)⟩
      have h2 := hch.2 (hk i (by omega))
      omega

theorem far_zero (a b : List Int) (ha : ∀ r ∈ a, r ≠ 0) : far a b = 0 ↔ a = b := by
  rw [far_eq, dis_zero a b ha _ _ (Nat.le_refl _)]
  constructor
  · rintro ⟨hl, hk⟩
    refine List.ext_getElem hl (fun k h1 h2 => ?_)
    have := hk k h1
    simpa [List.getD, h1, h2] using this
  · rintro rfl; exact ⟨rfl, fun _ _ => rfl⟩

/-- No row grows by more than one a step. -/
theorem stepRow_le (a : List Int) (before here : Nat → Nat) (last r : Int) (n : Nat) (hh : ∀ i, here i ≤ i + n) : ∀ i, stepRow a before here last r i ≤ i + (n + 1)
  | 0 => by have := hh 0; unfold stepRow; omega
  | i + 1 => by
    have h1 := hh (i + 1)
    unfold stepRow
    split <;> omega

end Go.Proofs.YtdfnngehhiociaaGreatDoor
