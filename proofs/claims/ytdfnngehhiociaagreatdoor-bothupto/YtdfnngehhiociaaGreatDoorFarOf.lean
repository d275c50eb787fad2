import Derived.Test.YtdfnngehhiociaaGreatDoorRanks
namespace Go.Proofs.YtdfnngehhiociaaGreatDoor
open Go.RowKit Go.Maps Go.WideMaps Go.Sort
open Go.Proofs (encStr)

/-- How far a word is, by matches; -1: it is not there. -/
def lookM : List (Bs × Nat) → Bs → Int
  | [], _ => -1
  | q :: r, x => if q.1 = x then (q.2 : Nat) else lookM r x

theorem lookM_drop (ms : List (Bs × Nat)) (k : Nat) (hk : k < ms.length) (x : Bs) : lookM (ms.drop k) x = if (ms.getD k ([], 0)).1 = x then (((ms.getD k ([], 0)).2 : Nat) : Int) else lookM (ms.drop (k + 1)) x := by
  rw [List.drop_eq_getElem_cons hk]
  have e : ms.getD k ([], 0) = ms[k] := by simp [List.getD, hk]
  rw [e, lookM]

set_option maxRecDepth 100000 in
theorem farOf_some (g cap : Nat) (ms : List (Bs × Nat)) (s : Bs) (w : World) (hl : ms.length ≤ 40) (hc : ∀ j, j < ms.length → w.cell? ⟨g, j * 2, none⟩ = some (encStr (ms.getD j ([], 0)).1) ∧ w.cell? ⟨g, j * 2 + 1, none⟩ = some (.int .i64 ((ms.getD j ([], 0)).2 : Nat))) :
    Calls Tryz.prog 15 #[.slice (some ⟨g, 0, none⟩) ms.length cap, encStr s] w fun e w' => e = .returned (.int .i64 (lookM ms s)) ∧ w' = w := by
  generalize hR : lookM ms s = R
  have HR := hide hR
  have HC := hide hc
  clear hR hc
  go_enter Tryz.func15, Tryz.ntmps15
  go_wp2
  go_loop [5] (fun i => ∃ k : Nat, k ≤ ms.length ∧ i = .int .i64 k ∧ Hid (lookM (ms.drop k) s = R)) (fun i => ms.length - (intOf i).toNat)
  case atStart => exact ⟨0, Nat.zero_le _, rfl, HR⟩
  case round =>
    obtain ⟨k, hk, rfl, hRk⟩ := hrel
    by_cases hlt : k < ms.length
    · have hki : (k : Int) < (ms.length : Int) := by omega
      obtain ⟨c0, c1⟩ := unhide HC k hlt
      have hst := lookM_drop ms k hlt s
      generalize ms.getD k ([], 0) = q at c0 c1 hst
      by_cases hq : q.1 = s
      · rw [if_pos hq, unhide hRk] at hst
        rw [hq] at c0
        have HS := hide hst
        clear hst hq
        go_wp2
        go_ret
        exact ⟨by rw [unhide HS]; rfl, rfl⟩
      · rw [if_neg hq, unhide hRk] at hst
        have HS := hide hst
        have hqb : (q.1 == s) = false := by simpa using hq
        clear hst hq
        go_wp2
        exact ⟨⟨k + 1, by omega, by go_num, (unhide HS).symm⟩, by simp [intOf]; omega⟩
    · obtain rfl : k = ms.length := by omega
      have hend := unhide hRk
      rw [List.drop_eq_nil_iff.2 (Nat.le_refl _), lookM] at hend
      have HE := hide hend
      clear hend
      go_wp2
      go_ret
      exact ⟨by rw [← unhide HE]; rfl, rfl⟩

set_option maxRecDepth 100000 in
theorem farOf_none (s : Bs) (w : World) : Calls Tryz.prog 15 #[.slice none 0 0, encStr s] w fun e w' => e = .returned (.int .i64 (-1)) ∧ w' = w := by
  go_enter Tryz.func15, Tryz.ntmps15
  go_wp2
  refine wp_loop_rounds 1 ?_
  rw [rounds_succ]
  go_wp2
  go_ret
  exact ⟨rfl, rfl⟩

theorem farOf_any (v : Value) (ms : List (Bs × Nat)) (s : Bs) (w : World) (hl : ms.length ≤ 40) (h : MRow w v ms) : Calls Tryz.prog 15 #[v, encStr s] w fun e w' => e = .returned (.int .i64 (lookM ms s)) ∧ w' = w := by
  rcases h with ⟨rfl, rfl⟩ | ⟨g, cap, rfl, hc⟩
  · exact farOf_none s w
  · exact farOf_some g cap ms s w hl hc

/-- In a list without a word twice it is told how far each word is. -/
theorem lookM_mem : ∀ (ms : List (Bs × Nat)), (ms.map Prod.fst).Nodup → ∀ q ∈ ms, lookM ms q.1 = (q.2 : Nat)
  | p :: r, hn, q, hq => by
    rw [List.map_cons, List.nodup_cons] at hn
    rw [lookM]
    rcases List.mem_cons.1 hq with e | e
    · rw [e, if_pos rfl]
    · rw [if_neg (fun h => hn.1 (by rw [h]; exact List.mem_map_of_mem e))]
      exact lookM_mem r hn.2 q e
theorem lookM_not : ∀ (ms : List (Bs × Nat)) (x : Bs), x ∉ ms.map Prod.fst → lookM ms x = -1
  | [], _, _ => rfl
  | p :: r, x, h => by
    rw [List.map_cons, List.mem_cons, not_or] at h
    rw [lookM, if_neg (fun e => h.1 e.symm)]
    exact lookM_not r x h.2

theorem foundL_nodup (a : List Int) (f : Nat) {L : List Bs} (hn : L.Nodup) : ((foundL a f L).map Prod.fst).Nodup := by
  have h1 : ((L.map (fun y => (y, far a (runesD y)))).map Prod.fst).Nodup := by
    rw [List.map_map]
    have : (Prod.fst ∘ fun y : Bs => (y, far a (runesD y))) = id := rfl
    rw [this, List.map_id]
    exact hn
  exact h1.sublist (List.Sublist.map _ List.filter_sublist)
theorem foundL_iff (a : List Int) (f : Nat) (L : List Bs) (q : Bs × Nat) : q ∈ foundL a f L ↔ q.1 ∈ L ∧ q.2 = far a (runesD q.1) ∧ q.2 ≤ f := by
  unfold foundL
  rw [List.mem_filter, List.mem_map]
  constructor
  · rintro ⟨⟨y, hy, rfl⟩, h⟩
    exact ⟨hy, rfl, by simpa using h⟩
  · rintro ⟨h1, h2, h3⟩
    exact ⟨⟨q.1, h1, by rw [← h2]⟩, by simpa using h3⟩

/-- All that is near, the nearest first. -/
def allNear (L : List Bs) (x : Bs) (f : Nat) : List (Bs × Nat) := sortM (foundL (runesD x) f L)

theorem allNear_len (L : List Bs) (x : Bs) (f : Nat) : (allNear L x f).length ≤ L.length := by
  unfold allNear; rw [sortM_length]; exact foundL_le _ _ _
theorem near_all (L : List Bs) (x : Bs) (f : Nat) (h : L.length ≤ 40) : nearL L x f 40 = allNear L x f := by
  unfold nearL
  exact List.take_of_length_le (by have := allNear_len L x f; unfold allNear at this; omega)
theorem allNear_nodup (L : List Bs) (x : Bs) (f : Nat) (hn : L.Nodup) : ((allNear L x f).map Prod.fst).Nodup :=
  ((sortM_perm _).map Prod.fst).nodup_iff.2 (foundL_nodup _ _ hn)
theorem allNear_iff (L : List Bs) (x : Bs) (f : Nat) (q : Bs × Nat) : q ∈ allNear L x f ↔ q.1 ∈ L ∧ q.2 = far (runesD x) (runesD q.1) ∧ q.2 ≤ f :=
  (sortM_perm _).mem_iff.trans (foundL_iff _ _ _ _)

theorem look_near (L : List Bs) (x y : Bs) (f : Nat) (hn : L.Nodup) (hy : y ∈ L) : lookM (allNear L x f) y = if far (runesD x) (runesD y) ≤ f then ((far (runesD x) (runesD y) : Nat) : Int) else -1 := by
  by_cases h : far (runesD x) (runesD y) ≤ f
  · rw [if_pos h]
    exact lookM_mem _ (allNear_nodup L x f hn) (y, far (runesD x) (runesD y)) ((allNear_iff L x f _).2 ⟨hy, rfl, h⟩)
  · rw [if_neg h]
    refine lookM_not _ _ (fun hm => ?_)
    obtain ⟨q, hq, rfl⟩ := List.mem_map.1 hm
    obtain ⟨_, h2, h3⟩ := (allNear_iff L x f q).1 hq
    exact h (by omega)

/-- The nearest first, of the same the lower ones. -/
theorem allNear_lt (L : List Bs) (x : Bs) (f : Nat) (hn : L.Nodup) (k : Nat) (hk : k < (allNear L x f).length) (h0 : 0 < k) : ltM ((allNear L x f).getD (k - 1) ([], 0)) ((allNear L x f).getD k ([], 0)) := by
  have hp : (allNear L x f).Pairwise (fun a b => ¬ ltM b a) := sortM_pairwise _
  have hk1 : k - 1 < (allNear L x f).length := by omega
  have h1 := List.pairwise_iff_getElem.1 hp (k - 1) k hk1 hk (by omega)
  have hnd := allNear_nodup L x f hn
  have h2 := List.pairwise_iff_getElem.1 hnd (k - 1) k (by simpa using hk1) (by simpa using hk) (by omega)
  have e1 : (allNear L x f).getD (k - 1) ([], 0) = (allNear L x f)[k - 1] := by simp [List.getD, hk1]
  have e2 : (allNear L x f).getD k ([], 0) = (allNear L x f)[k] := by simp [List.getD, hk]
  rw [e1, e2]
  apply Classical.byContradiction
  intro hc
  have := ltM_total _ _ hc h1
  rw [List.getElem_map, List.getElem_map] at h2
  exact h2 (by rw [this])

end Go.Proofs.YtdfnngehhiociaaGreatDoor
