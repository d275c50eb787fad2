import Derived.Test.YtdfnngehhiociaaGreatDoorLex
import Derived.Test.YtdfnngehhiociaaGreatDoorIter
namespace Go.Proofs.YtdfnngehhiociaaGreatDoor
open Go.RowKit Go.Maps Go.WideMaps
open Go.Proofs (encStr)

/-- A slice of these words lies there. -/
def SRow (w : World) (v : Value) (xs : List Bs) : Prop :=
  (v = .slice none 0 0 ∧ xs = []) ∨ ∃ g cap, v = .slice (some ⟨g, 0, none⟩) xs.length cap ∧ ∀ j, j < xs.length → w.cell? ⟨g, j, none⟩ = some (encStr (xs.getD j []))

theorem SRow.kept {w w' : World} {v : Value} {xs : List Bs} (h : SRow w v xs) (hg : w.grownBy w' none) : SRow w' v xs := by
  rcases h with h | ⟨g, cap, hv, hc⟩
  · exact Or.inl h
  · exact Or.inr ⟨g, cap, hv, fun j hj => hg.cell (hc j hj) (by simp)⟩

theorem SRow.of {w : World} {base : Nat} {v : Value} {xs : List Bs} (h : w.ownsRow base 9 1 v xs.length (xs.map encStr)) : SRow w v xs := by
  rcases h.2 with ⟨rfl, h0⟩ | ⟨g, cap, cur, rfl, _⟩
  · exact Or.inl ⟨rfl, List.length_eq_zero_iff.1 h0⟩
  · refine Or.inr ⟨g, cap, rfl, fun j hj => ?_⟩
    rw [h.cellAt j (by omega)]
    simp [List.getD, hj]

/-- The words, rising. -/
def sorted (L : List Bs) : List Bs := L.mergeSort leB

theorem sorted_perm (L : List Bs) : (sorted L).Perm L := List.mergeSort_perm L leB
theorem sorted_length (L : List Bs) : (sorted L).length = L.length := (sorted_perm L).length_eq

theorem words_any (p : Nat) (L : List Bs) (w : World) (hL : IsLex w p L) : Calls Tryz.prog 8 #[.pointer (some ⟨p, 0, none⟩)] w fun e w' => e = .returned (.int .i64 L.length) ∧ w' = w := by
  obtain ⟨b, hp, ⟨D, h1, h2, h3, h4⟩, hG⟩ := hL
  go_enter Tryz.func8, Tryz.ntmps8
  go_wp2_with (first
    | (at_len; refine wpList_len_own _ rfl _ 53 rfl 9 79 Tryz.underlying53 _ b L.length D rfl h1 ?_)
    | go_in)
  go_ret
  exact ⟨rfl, rfl⟩

theorem prefix_any (p : Nat) (L : List Bs) (s : ByteArray) (w : World) (hL : IsLex w p L) :
    Calls Tryz.prog 9 #[.pointer (some ⟨p, 0, none⟩), .string s] w fun e w' => ∃ v, e = .returned v ∧ SRow w' v (sorted (L.filter (fun x => Lib.hasPrefix x (bs s)))) ∧ w.grownBy w' none := by
  obtain ⟨b, hp, hS, hG⟩ := hL
  have h40 := hG.1
  go_enter Tryz.func9, Tryz.ntmps9
  go_wp2_with fail
  refine (beginning_any (some b) s L _ hS hG.le (by omega)).mono ?_
  rintro e w1 ⟨b1, rfl, hS1, hb1, hg1⟩
  have hfl := List.length_filter_le (fun x => Lib.hasPrefix x (bs s)) L
  generalize hF : L.filter (fun x => Lib.hasPrefix x (bs s)) = F at hS1 hfl
  have HF := hide hF
  clear hF
  go_wp2_with fail
  refine (rising_any b1 F _ hS1 (by omega)).mono ?_
  rintro e w2 ⟨v, rfl, hrow, hnil, hg2⟩
  go_wp2
  go_ret
  refine ⟨v, rfl, ?_, gnone hg1 hg2⟩
  rw [unhide HF]
  refine SRow.of (base := w1.heap.size) ?_
  rw [sorted_length]
  exact hrow

theorem at_bad (p : Nat) (L : List Bs) (i : Int) (w : World) (hL : IsLex w p L) (hi : i < 0 ∨ (L.length : Int) ≤ i) :
    Calls Tryz.prog 10 #[.pointer (some ⟨p, 0, none⟩), .int .i64 i] w fun e w' => e = .returned (.tuple #[.string ⟨#[]⟩, .int .i64 5]) ∧ w' = w := by
  obtain ⟨b, hp, ⟨D, h1, h2, h3, h4⟩, hG⟩ := hL
  have hlen : ∀ ty, (Builtin.len_ #[53] ty #[.map (some b)]).run Tryz.prog w = .ok (.int .i64 L.length) w := fun ty => by rw [← h4]; exact h1.len Tryz.underlying53 ty
  by_cases hn : i < 0
  · go_enter Tryz.func10, Tryz.ntmps10
    go_wp2
    go_ret2
    exact ⟨rfl, rfl⟩
  · have hge : (L.length : Int) ≤ i := by omega
    go_enter Tryz.func10, Tryz.ntmps10
    go_wp2
    go_ret2
    exact ⟨rfl, rfl⟩

set_option maxRecDepth 100000 in
theorem at_any (p : Nat) (L : List Bs) (k : Nat) (w : World) (hL : IsLex w p L) (hk : k < L.length) :
    Calls Tryz.prog 10 #[.pointer (some ⟨p, 0, none⟩), .int .i64 k] w fun e w' => e = .returned (.tuple #[encStr ((sorted L).getD k []), .int .i64 0]) ∧ w.grownBy w' none := by
  obtain ⟨b, hp, hS, hG⟩ := hL
  have hS' := hS
  obtain ⟨D, h1, h2, h3, h4⟩ := hS
  have h40 := hG.1
  have hlen : ∀ ty, (Builtin.len_ #[53] ty #[.map (some b)]).run Tryz.prog w = .ok (.int .i64 L.length) w := fun ty => by rw [← h4]; exact h1.len Tryz.underlying53 ty
  have hn : ¬ (k : Int) < 0 := by omega
  have hge : ¬ (L.length : Int) ≤ (k : Int) := by omega
  generalize hy : (sorted L).getD k [] = y
  have HY := hide hy
  clear hy
  go_enter Tryz.func10, Tryz.ntmps10
  go_wp2_with fail
  refine (copied_any (some b) L _ hS' hG.le (by omega)).mono ?_
  rintro e w1 ⟨b1, rfl, hS1, hb1, hg1⟩
  go_wp2_with fail
  refine (rising_any b1 L _ hS1 (by omega)).mono ?_
  rintro e w2 ⟨v, rfl, hrow, hnil, hg2⟩
  rcases hrow.2 with ⟨rfl, h0⟩ | ⟨g, cap, cur, rfl, _⟩
  · omega
  · have hc : w2.cell? ⟨g, k, none⟩ = some (encStr y) := by
      rw [← unhide HY, hrow.cellAt k (by omega)]
      simp [List.getD, sorted, hk]
    go_wp2
    go_ret2
    exact ⟨rfl, gnone hg1 hg2⟩

theorem rank_any (p : Nat) (L : List Bs) (s : ByteArray) (w : World) (hL : IsLex w p L) (hs : s.size ≤ 281474976710656) :
    Calls Tryz.prog 11 #[.pointer (some ⟨p, 0, none⟩), .string s] w fun e w' => e = .returned (if bs s ∈ L then .tuple #[.int .i64 (lower (bs s) L), .int .i64 0] else .tuple #[.int .i64 0, .int .i64 5]) ∧ w.grownBy w' none := by
  obtain ⟨b, hp, hS, hG⟩ := hL
  have h40 := hG.1
  by_cases hm : bs s ∈ L
  · rw [if_pos hm]
    have hd : decide (bs s ∈ L) = true := by simpa using hm
    go_enter Tryz.func11, Tryz.ntmps11
    go_wp2_with (first
      | (go_at_call 28; refine (has_any b L _ _ hS (by unfold maxLen; omega)).mono ?_; rintro e w1 ⟨rfl, hg1⟩; have hp1 := cell_kept hp hg1 (show some p ≠ none by simp))
      | (go_at_call 29; refine (below_any b _ L _ (hS.kept hg1 (by simp)) (by omega)).mono ?_; rintro e w2 ⟨rfl, hg2⟩))
    go_ret2
    exact ⟨rfl, gnone hg1 hg2⟩
  · rw [if_neg hm]
    have hd : decide (bs s ∈ L) = false := by simpa using hm
    go_enter Tryz.func11, Tryz.ntmps11
    go_wp2_with (first
      | (go_at_call 28; refine (has_any b L _ _ hS (by unfold maxLen; omega)).mono ?_; rintro e w1 ⟨rfl, hg1⟩))
    go_ret2
    exact ⟨rfl, hg1⟩

end Go.Proofs.YtdfnngehhiociaaGreatDoor
