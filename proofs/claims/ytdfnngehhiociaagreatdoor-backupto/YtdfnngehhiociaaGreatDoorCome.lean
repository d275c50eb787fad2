import Derived.Test.YtdfnngehhiociaaGreatDoorWrong
import Derived.Test.YtdfnngehhiociaaGreatDoorBelow
import Derived.Test.YtdfnngehhiociaaGreatDoorSmall
namespace Go.Proofs.YtdfnngehhiociaaGreatDoor
open Go.RowKit Go.Maps Go.WideMaps

/-- A word that is to come: what is wrong. -/
def comeE (L : List Bs) (x : Bs) : Int := if wrong x ≠ 0 then wrong x else if x ∈ L then 4 else if 40 ≤ L.length then 3 else 0
/-- A word that is to go: what is wrong. -/
def leaveE (L : List Bs) (x : Bs) : Int := if wrong x ≠ 0 then wrong x else if x ∈ L then 0 else 5

theorem Tabs.ne {w : World} {b : Nat} {L : List Bs} (h : Tabs w) (hS : IsSet w b L) : some 0 ≠ some b ∧ some 1 ≠ some b :=
  ⟨fun e => hS.ne (h.1 0 (by omega)) (Option.some.inj e), fun e => hS.ne (h.2 0 (by omega)).1 (Option.some.inj e)⟩
theorem Tabs.set {w w' : World} {b : Nat} {L : List Bs} (h : Tabs w) (hS : IsSet w b L) (hg : w.grownBy w' (some b)) : Tabs w' :=
  h.kept hg (h.ne hS).1 (h.ne hS).2
theorem Tabs.none {w w' : World} (h : Tabs w) (hg : w.grownBy w' none) : Tabs w' := h.kept hg (by simp) (by simp)

theorem come_any (hV : ValidSaid) (b : Nat) (L : List Bs) (x : ByteArray) (w : World) (hS : IsSet w b L) (hT : Tabs w) (hx : x.size ≤ 281474976710656) (hL : L.length ≤ 40) :
    Calls Tryz.prog 42 #[.map (some b), .string x] w fun e w' => e = .returned (.int .i64 (comeE L (bs x))) ∧ IsSet w' b (if comeE L (bs x) = 0 then L ++ [bs x] else L) ∧ w.grownBy w' (some b) := by
  have hW := wrongWith_any hV x w hx hT
  by_cases h0 : wrong (bs x) = 0
  · rw [h0] at hW
    have HW := hide hW
    clear hW
    by_cases hm : bs x ∈ L
    · have hc : comeE L (bs x) = 4 := by simp [comeE, h0, hm]
      have hd : decide (bs x ∈ L) = true := by simpa using hm
      rw [hc]
      clear h0 hc
      go_enter Tryz.func42, Tryz.ntmps42
      go_wp2_with (first
        | (go_at_call 30; refine (unhide HW).mono ?_; rintro e w1 ⟨rfl, hg1⟩)
        | (go_at_call 28; refine (has_any b L _ _ (hS.kept hg1 (by simp)) (by unfold maxLen; omega)).mono ?_; rintro e w2 ⟨rfl, hg2⟩))
      go_ret
      exact ⟨rfl, by simpa using hS.kept (gnone hg1 hg2) (by simp), (gnone hg1 hg2).but _⟩
    · have hd : decide (bs x ∈ L) = false := by simpa using hm
      by_cases hf : 40 ≤ L.length
      · have hc : comeE L (bs x) = 3 := by simp [comeE, h0, hm, hf]
        rw [hc]
        clear h0 hc
        have hfi : (40 : Int) ≤ (L.length : Int) := by omega
        go_enter Tryz.func42, Tryz.ntmps42
        go_wp2_with (first
          | (go_at_call 30; refine (unhide HW).mono ?_; rintro e w1 ⟨rfl, hg1⟩)
          | (go_at_call 28; refine (has_any b L _ _ (hS.kept hg1 (by simp)) (by unfold maxLen; omega)).mono ?_; rintro e w2 ⟨rfl, hg2⟩; obtain ⟨D, d1, d2, d3, d4⟩ := hS.kept (gnone hg1 hg2) (show some b ≠ none by simp))
          | (at_len; refine wpList_len_own _ rfl _ 53 rfl 9 79 Tryz.underlying53 _ b L.length D rfl d1 ?_)
          | go_in)
        go_ret
        exact ⟨rfl, by simpa using hS.kept (gnone hg1 hg2) (by simp), (gnone hg1 hg2).but _⟩
      · have hc : comeE L (bs x) = 0 := by simp [comeE, h0, hm, hf]
        rw [hc]
        clear h0 hc
        have hfi : ¬ (40 : Int) ≤ (L.length : Int) := by omega
        go_enter Tryz.func42, Tryz.ntmps42
        go_wp2_with (first
          | (go_at_call 30; refine (unhide HW).mono ?_; rintro e w1 ⟨rfl, hg1⟩)
          | (go_at_call 28; refine (has_any b L _ _ (hS.kept hg1 (by simp)) (by unfold maxLen; omega)).mono ?_; rintro e w2 ⟨rfl, hg2⟩; obtain ⟨D, d1, d2, d3, d4⟩ := hS.kept (gnone hg1 hg2) (show some b ≠ none by simp))
          | (at_len; refine wpList_len_own _ rfl _ 53 rfl 9 79 Tryz.underlying53 _ b L.length D rfl d1 ?_)
          | (go_at_call 46; refine (put_any b L _ _ (hS.kept (gnone hg1 hg2) (by simp)) hm hx (by omega)).mono ?_; rintro e w3 ⟨rfl, hS3, hg3⟩)
          | go_in)
        go_ret
        exact ⟨rfl, by simpa using hS3, gtrans ((gnone hg1 hg2).but _) hg3⟩
  · have hc : comeE L (bs x) = wrong (bs x) := by simp [comeE, h0]
    rw [hc]
    generalize wrong (bs x) = c at hW h0 ⊢
    clear hc
    have hb : (c == 0) = false := by simpa using h0
    go_enter Tryz.func42, Tryz.ntmps42
    go_wp2_with (go_at_call 30; refine hW.mono ?_; rintro e w1 ⟨rfl, hg1⟩)
    go_ret
    exact ⟨rfl, hS.kept hg1 (by simp), hg1.but _⟩

theorem IsSet.del {w w' : World} {b : Nat} {L : List Bs} {D : DataW Unit} {x : Bs} (h1 : w.ownsMap Tryz.prog 9 unitElem b L.length D) (h2 : L.Nodup) (h3 : ∀ s, has D (.string s) = true ↔ s ∈ L) (h4 : Maps.size D = L.length) (hx : x ∈ L)
    (hown : w'.ownsMap Tryz.prog 9 unitElem b L.length (D.del (.string x))) : IsSet w' b (L.erase x) := by
  have hh : has D (.string x) = true := (h3 x).2 hx
  have hsz : Maps.size (D.del (.string x)) = (L.erase x).length := by
    have := size_del (D := D) (k := .string x) (h1.tidy law9)
    rw [hh] at this
    rw [List.length_erase_of_mem hx]
    simp at this
    omega
  refine ⟨_, ownsMap_tight hown (Nat.le_of_eq hsz), h2.erase x, fun s => ?_, hsz⟩
  by_cases hs : s = x
  · subst hs
    rw [has_del_same]
    simp [List.Nodup.not_mem_erase h2]
  · rw [has_del_other (fun e => hs (by injection e)), h3, List.mem_erase_of_ne hs]

set_option maxRecDepth 100000 in
theorem leave_any (hV : ValidSaid) (b : Nat) (L : List Bs) (x : ByteArray) (w : World) (hS : IsSet w b L) (hT : Tabs w) (hx : x.size ≤ 281474976710656) :
    Calls Tryz.prog 40 #[.map (some b), .string x] w fun e w' => e = .returned (.int .i64 (leaveE L (bs x))) ∧ IsSet w' b (if leaveE L (bs x) = 0 then L.erase (bs x) else L) ∧ w.grownBy w' (some b) := by
  have hW := wrongWith_any hV x w hx hT
  by_cases h0 : wrong (bs x) = 0
  · rw [h0] at hW
    have HW := hide hW
    clear hW
    by_cases hm : bs x ∈ L
    · have hc : leaveE L (bs x) = 0 := by simp [leaveE, h0, hm]
      have hd : decide (bs x ∈ L) = true := by simpa using hm
      rw [hc]
      clear h0 hc
      have hkey := keyOf_string_mk (P := Tryz.prog) Tryz.underlying9 (s := x) (by unfold maxLen; omega)
      go_enter Tryz.func40, Tryz.ntmps40
      go_wp2_with (first
        | (go_at_call 30; refine (unhide HW).mono ?_; rintro e w1 ⟨rfl, hg1⟩)
        | (go_at_call 28; refine (has_any b L _ _ (hS.kept hg1 (by simp)) (by unfold maxLen; omega)).mono ?_; rintro e w2 ⟨rfl, hg2⟩; obtain ⟨D, d1, d2, d3, d4⟩ := hS.kept (gnone hg1 hg2) (show some b ≠ none by simp))
        | (at_delete; refine wpList_delete_own _ rfl _ _ 53 9 rfl 79 law9 Tryz.underlying53 _ b L.length D rfl d1 _ _ rfl hkey ?_; intro w3 hown3 hturn3)
        | go_in)
      go_ret
      exact ⟨rfl, by simpa using IsSet.del d1 d2 d3 d4 hm hown3, gtrans ((gnone hg1 hg2).but _) hturn3.grown⟩
    · have hc : leaveE L (bs x) = 5 := by simp [leaveE, h0, hm]
      have hd : decide (bs x ∈ L) = false := by simpa using hm
      rw [hc]
      clear h0 hc
      go_enter Tryz.func40, Tryz.ntmps40
      go_wp2_with (first
        | (go_at_call 30; refine (unhide HW).mono ?_; rintro e w1 ⟨rfl, hg1⟩)
        | (go_at_call 28; refine (has_any b L _ _ (hS.kept hg1 (by simp)) (by unfold maxLen; omega)).mono ?_; rintro e w2 ⟨rfl, hg2⟩))
      go_ret
      exact ⟨rfl, by simpa using hS.kept (gnone hg1 hg2) (by simp), (gnone hg1 hg2).but _⟩
  · have hc : leaveE L (bs x) = wrong (bs x) := by simp [leaveE, h0]
    rw [hc]
    generalize wrong (bs x) = c at hW h0 ⊢
    clear hc
    have hb : (c == 0) = false := by simpa using h0
    go_enter Tryz.func40, Tryz.ntmps40
    go_wp2_with (go_at_call 30; refine hW.mono ?_; rintro e w1 ⟨rfl, hg1⟩)
    go_ret
    exact ⟨rfl, hS.kept hg1 (by simp), hg1.but _⟩

end Go.Proofs.YtdfnngehhiociaaGreatDoor
