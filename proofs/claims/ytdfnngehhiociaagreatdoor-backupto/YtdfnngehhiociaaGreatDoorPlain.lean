import Derived.Test.YtdfnngehhiociaaGreatDoorGrown
namespace Go.Proofs.YtdfnngehhiociaaGreatDoor
open Go.RowKit Go.Maps Go.WideMaps Go.Sort
open Go.Proofs (encStr)

theorem sorted_le (L : List Bs) : (sorted L).Pairwise (· ≤ ·) := by
  have h := List.pairwise_mergeSort (le := leB) (fun a b c h1 h2 => by simp only [leB, decide_eq_true_eq] at *; exact List.le_trans h1 h2) (fun a b => by simp only [leB, Bool.or_eq_true, decide_eq_true_eq]; exact List.le_total a b) L
  exact h.imp (fun {a b} hab => by simpa [leB] using hab)

theorem sorted_nodup {L : List Bs} (h : L.Nodup) : (sorted L).Nodup := (sorted_perm L).nodup_iff.2 h

theorem sortedP_lt {L : List Bs} (h : L.Nodup) : (sorted L).Pairwise (· < ·) := by
  have h1 := sorted_le L
  have h2 := sorted_nodup h
  refine (h1.and h2).imp (fun {a b} hab => ?_)
  apply Classical.byContradiction
  intro hn
  exact hab.2 (List.le_antisymm hab.1 hn)

theorem count_lt : ∀ (A : List Bs), A.Pairwise (· < ·) → ∀ k, k < A.length → A.countP (fun y => decide (y < A.getD k [])) = k
  | a :: r, h, 0, _ => by
    rw [List.pairwise_cons] at h
    rw [List.countP_eq_zero]
    intro y hy
    have hd : (a :: r).getD 0 [] = a := rfl
    rw [hd]
    rcases List.mem_cons.1 hy with e | e
    · rw [e]; simp [List.lt_irrefl]
    · have := h.1 y e
      simp only [decide_eq_true_eq]
      exact fun h' => List.lt_irrefl _ (List.lt_trans this h')
  | a :: r, h, k + 1, hk => by
    rw [List.pairwise_cons] at h
    have hk' : k < r.length := by simpa using hk
    have hd : (a :: r).getD (k + 1) [] = r.getD k [] := rfl
    have hm : r.getD k [] ∈ r := by simp [List.getD, hk']
    rw [hd, List.countP_cons_of_pos (by simpa using h.1 _ hm), count_lt r h.2 k hk']

theorem lower_at {L : List Bs} (h : L.Nodup) (k : Nat) (hk : k < L.length) : lower ((sorted L).getD k []) L = k := by
  have e : lower ((sorted L).getD k []) L = lower ((sorted L).getD k []) (sorted L) := ((sorted_perm L).countP_eq _).symm
  rw [e]
  exact count_lt _ (sortedP_lt h) k (by rw [sorted_length]; exact hk)

theorem sorted_mem (L : List Bs) (k : Nat) (hk : k < L.length) : (sorted L).getD k [] ∈ L := by
  have hk' : k < (sorted L).length := by rw [sorted_length]; exact hk
  refine (sorted_perm L).mem_iff.1 ?_
  simp [List.getD, hk']

theorem sorted_next {L : List Bs} (h : L.Nodup) (k : Nat) (hk : k < L.length) (h0 : 0 < k) : (sorted L).getD (k - 1) [] < (sorted L).getD k [] := by
  have hk' : k < (sorted L).length := by rw [sorted_length]; exact hk
  have hk1 : k - 1 < (sorted L).length := by omega
  have := List.pairwise_iff_getElem.1 (sortedP_lt h) (k - 1) k hk1 hk' (by omega)
  simpa [List.getD, hk', hk1] using this

theorem far_self_iff {x y : Bs} (hx : wrong x = 0) (hy : wrong y = 0) : far (runesD x) (runesD y) = 0 ↔ x = y := by
  obtain ⟨_, vx, _, rx⟩ := wrong_runes hx
  obtain ⟨_, vy, _, _⟩ := wrong_runes hy
  rw [far_zero _ _ (fun r hr => by have := rx r hr; omega)]
  exact ⟨fun h => runes_inj vx vy h, fun h => by rw [h]⟩

theorem found_zero : ∀ (L : List Bs) (x : Bs), L.Nodup → (∀ y ∈ L, wrong y = 0) → wrong x = 0 → foundL (runesD x) 0 L = if x ∈ L then [(x, 0)] else []
  | [], x, _, _, _ => by simp [foundL]
  | y :: L, x, hn, hw, hx => by
    rw [List.nodup_cons] at hn
    have ih := found_zero L x hn.2 (fun z hz => hw z (List.mem_cons_of_mem _ hz)) hx
    have e : foundL (runesD x) 0 (y :: L) = if far (runesD x) (runesD y) ≤ 0 then (y, far (runesD x) (runesD y)) :: foundL (runesD x) 0 L else foundL (runesD x) 0 L := by
      unfold foundL
      rw [List.map_cons, List.filter_cons]
      by_cases h : far (runesD x) (runesD y) ≤ 0 <;> simp [h]
    rw [e, ih]
    have hz := far_self_iff hx (hw y (List.mem_cons_self ..))
    by_cases hxy : x = y
    · have h0 := hz.2 hxy
      subst hxy
      rw [if_pos (by omega), h0, if_neg hn.1, if_pos (List.mem_cons_self ..)]
    · have hne : ¬ far (runesD x) (runesD y) ≤ 0 := fun h => hxy (hz.1 (by omega))
      rw [if_neg hne]
      simp [hxy]

theorem near_zero {L : List Bs} (hn : L.Nodup) (hG : Good L) {x : Bs} (hx : x ∈ L) : nearL L x 0 5 = [(x, 0)] := by
  unfold nearL
  rw [found_zero L x hn hG.2 (hG.2 x hx), if_pos hx]
  simp [sortM]

set_option maxRecDepth 100000 in
theorem grown_none (cap : Nat) (ad : Option Addr) (w : World) (hT : Tabs w) :
    Calls Tryz.prog 7 #[.slice ad 0 cap] w fun e w' => ∃ p L, e = .returned (.pointer (some ⟨p, 0, none⟩)) ∧ IsLex w' p L ∧ w.grownBy w' none := by
  have hB := build_any [] (.slice none 0 0) w hT (Or.inl ⟨rfl, rfl⟩) (by decide) (by simp)
  rw [show withR [] (([] : List ByteArray).map bs) = ([], 0, 0) from rfl] at hB
  have HB := hide hB
  clear hB
  go_enter Tryz.func7, Tryz.ntmps7
  go_wp2_with fail
  refine (unhide HB).mono ?_
  rintro e w1 ⟨hg1, ⟨h0, p, rfl, hL⟩ | ⟨h0, rfl⟩⟩
  · have HL := hide hL
    clear h0 hL
    go_wp2
    refine wp_loop_rounds 1 ?_
    rw [rounds_succ]
    go_wp2
    go_ret
    exact ⟨p, [], rfl, unhide HL, hg1⟩
  · exact absurd rfl h0

theorem grown_any (v : Value) (w : World) (hS : Std w) (hv : Script w v) :
    Calls Tryz.prog 7 #[v] w fun e w' => ∃ p L, e = .returned (.pointer (some ⟨p, 0, none⟩)) ∧ IsLex w' p L ∧ w.grownBy w' none := by
  obtain ⟨n, cap, ad, rfl, hn, h⟩ := hv
  by_cases h0 : 0 < n
  · obtain ⟨g, off, rfl, hO⟩ := h h0
    exact grown_some n cap g off w hS hn hO
  · obtain rfl : n = 0 := by omega
    exact grown_none cap ad w hS.tabs

end Go.Proofs.YtdfnngehhiociaaGreatDoor
