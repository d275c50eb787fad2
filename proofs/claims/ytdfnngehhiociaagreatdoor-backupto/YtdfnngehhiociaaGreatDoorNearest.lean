import Derived.Test.YtdfnngehhiociaaGreatDoorCmp
import Derived.Test.YtdfnngehhiociaaGreatDoorShelfD
namespace Go.Proofs.YtdfnngehhiociaaGreatDoor
open Go.RowKit Go.Maps Go.WideMaps Go.Sort
open Go.Proofs (encStr)

/-- A slice of these matches lies there. -/
def MRow (w : World) (v : Value) (ms : List (Bs × Nat)) : Prop :=
  (v = .slice none 0 0 ∧ ms = []) ∨ ∃ g cap, v = .slice (some ⟨g, 0, none⟩) ms.length cap ∧ ∀ j, j < ms.length → w.cell? ⟨g, j * 2, none⟩ = some (encStr (ms.getD j ([], 0)).1) ∧ w.cell? ⟨g, j * 2 + 1, none⟩ = some (.int .i64 ((ms.getD j ([], 0)).2 : Nat))

theorem MRow.kept {w w' : World} {v : Value} {ms : List (Bs × Nat)} (h : MRow w v ms) (hg : w.grownBy w' none) : MRow w' v ms := by
  rcases h with h | ⟨g, cap, hv, hc⟩
  · exact Or.inl h
  · exact Or.inr ⟨g, cap, hv, fun j hj => ⟨hg.cell (hc j hj).1 (by simp), hg.cell (hc j hj).2 (by simp)⟩⟩

/-- The matches, the nearest first. -/
def sortM (M : List (Bs × Nat)) : List (Bs × Nat) := M.mergeSort fun x y => !(ltOf cmpM) y x

theorem flat_len (ms : List (Bs × Nat)) : (ms.flatMap encM).length = ms.length * 2 := by
  induction ms with
  | nil => rfl
  | cons q r ih => rw [List.flatMap_cons, List.length_append, ih]; simp [encM]; omega

theorem flat_at : ∀ (ms : List (Bs × Nat)) (j : Nat), j < ms.length → (ms.flatMap encM)[j * 2]? = some (encStr (ms.getD j ([], 0)).1) ∧ (ms.flatMap encM)[j * 2 + 1]? = some (.int .i64 ((ms.getD j ([], 0)).2 : Nat))
  | q :: r, 0, _ => ⟨rfl, rfl⟩
  | q :: r, j + 1, h => by
    have ih := flat_at r j (by simpa using h)
    have e : ((q :: r).flatMap encM) = encStr q.1 :: .int .i64 (q.2 : Nat) :: r.flatMap encM := rfl
    rw [e, show (j + 1) * 2 = j * 2 + 1 + 1 by omega]
    simpa using ih

theorem flat_take (ms : List (Bs × Nat)) (k : Nat) : (ms.flatMap encM).take (k * 2) = (ms.take k).flatMap encM := by
  induction ms generalizing k with
  | nil => simp
  | cons q r ih =>
    cases k with
    | zero => simp
    | succ k =>
      have e : ((q :: r).flatMap encM) = encStr q.1 :: .int .i64 (q.2 : Nat) :: r.flatMap encM := rfl
      have e' : (((q :: r).take (k + 1)).flatMap encM) = encStr q.1 :: .int .i64 (q.2 : Nat) :: (r.take k).flatMap encM := rfl
      rw [e, e', show (k + 1) * 2 = k * 2 + 1 + 1 by omega, List.take_succ_cons, List.take_succ_cons, ih k]

theorem flat_one (ms : List (Bs × Nat)) : ∀ u ∈ ms.flatMap encM, u.oneCell' = true := by
  intro u hu
  obtain ⟨q, _, hq⟩ := List.mem_flatMap.1 hu
  simp [encM] at hq
  rcases hq with rfl | rfl <;> rfl

theorem MRow.of {w : World} {base : Nat} {v : Value} {ms : List (Bs × Nat)} (h : w.ownsRow base 38 2 v ms.length (ms.flatMap encM)) : MRow w v ms := by
  rcases h.2 with ⟨rfl, h0⟩ | ⟨g, cap, cur, rfl, _⟩
  · exact Or.inl ⟨rfl, List.length_eq_zero_iff.1 h0⟩
  · refine Or.inr ⟨g, cap, rfl, fun j hj => ?_⟩
    rw [h.cellAt (j * 2) (by omega), h.cellAt (j * 2 + 1) (by omega)]
    exact flat_at ms j hj

theorem holdsK_of {w : World} {g : Nat} {ms : List (Bs × Nat)} (hc : ∀ j, j < ms.length → w.cell? ⟨g, j * 2, none⟩ = some (encStr (ms.getD j ([], 0)).1) ∧ w.cell? ⟨g, j * 2 + 1, none⟩ = some (.int .i64 ((ms.getD j ([], 0)).2 : Nat)))
    (hf : ∀ j, w.frozen? ⟨g, j, none⟩ = false) : HoldsK encM 2 w g 0 ms.toArray := by
  intro j hj
  simp only [size_flatK, List.size_toArray] at hj
  refine ⟨?_, hf _⟩
  rw [get_flatK _ _ _ _ (by simpa using hj), Nat.zero_add]
  have hj2 : j / 2 < ms.length := by omega
  have e : (ms.toArray)[j / 2]! = ms.getD (j / 2) ([], 0) := by
    simp [List.getD, hj2]
  rw [e]
  obtain ⟨h0, h1⟩ := hc (j / 2) hj2
  rcases Nat.mod_two_eq_zero_or_one j with hm | hm
  · rw [hm, show j = j / 2 * 2 by omega]
    simpa [encM] using h0
  · rw [hm]
    conv => lhs; rw [show j = j / 2 * 2 + 1 by omega]
    simpa [encM] using h1

theorem of_holdsK {w : World} {g : Nat} {ms : List (Bs × Nat)} (h : HoldsK encM 2 w g 0 ms.toArray) : ∀ j, j < ms.length → w.cell? ⟨g, j * 2, none⟩ = some (encStr (ms.getD j ([], 0)).1) ∧ w.cell? ⟨g, j * 2 + 1, none⟩ = some (.int .i64 ((ms.getD j ([], 0)).2 : Nat)) := by
  intro j hj
  have e : (ms.toArray)[j]! = ms.getD j ([], 0) := by simp [List.getD, hj]
  have h0 := (h (j * 2) (by simp; omega)).1
  have h1 := (h (j * 2 + 1) (by simp; omega)).1
  rw [get_flatK _ _ _ _ (by simp; omega), Nat.zero_add] at h0 h1
  rw [show j * 2 / 2 = j by omega, show j * 2 % 2 = 0 by omega, e] at h0
  rw [show (j * 2 + 1) / 2 = j by omega, show (j * 2 + 1) % 2 = 1 by omega, e] at h1
  exact ⟨by simpa [encM] using h0, by simpa [encM] using h1⟩

theorem gsort (w : World) (g n : Nat) (dk : Array (Bs × Nat)) (os : Array Obj) : w.grownBy (sortWorldK encM 2 w g 0 n dk os) (some g) := by
  refine ⟨rfl, rfl, rfl, size_sortWorldK_c encM 2 w g 0 n dk os, fun i hi hne => ?_⟩
  unfold sortWorldK
  rw [heap_grow_old _ _ (by rw [size_putRowK]; exact hi)]
  unfold putRowK putRow mapBlock
  show (Array.modify _ _ _)[i]? = _
  rw [Array.getElem?_modify, if_neg (fun e => hne (by rw [e]))]
  rfl

theorem cmpLays (blk size : Nat) (w : World) : CmpLays Tryz.prog 53 #[] encM 2 cmpM blk 0 size w := by
  intro m os dk _ x y
  have h := nearer_any ⟨x.1.toArray⟩ ⟨y.1.toArray⟩ (x.2 : Nat) (y.2 : Nat) (sortWorldK encM 2 w blk 0 m dk os)
  exact h

theorem Tryd_info38 : (Tryz.prog.info? 38).map (fun i => (i.zero, i.size, i.bytes)) = some (some (.agg #[.string ⟨#[]⟩, .int .i64 0]), 2, 24) := by kernel_rfl

theorem two_new (w : World) (x : Bs) (c : Int) (t : TypeId) : ∀ j u, ([encStr x, .int .i64 c] : List Value)[j]? = some u → (w.alloc (.cells #[encStr x, .int .i64 c] t)).cell? ((⟨w.heap.size, 0, none⟩ : Addr).add j) = some u := by
  intro j u hu
  rw [Addr.add_mid, Nat.zero_add, cell_of_row _ _ _ _ t (0, 0) (Go.heap_alloc_new w _)]
  simpa using hu

/-- 'slices.SortFunc' at what was found. -/
theorem sort_any (g cap : Nat) (ms : List (Bs × Nat)) (w : World) (hc : ∀ j, j < ms.length → w.cell? ⟨g, j * 2, none⟩ = some (encStr (ms.getD j ([], 0)).1) ∧ w.cell? ⟨g, j * 2 + 1, none⟩ = some (.int .i64 ((ms.getD j ([], 0)).2 : Nat)))
    (hf : ∀ j, w.frozen? ⟨g, j, none⟩ = false) (hg : g < w.heap.size) (hl : ms.length < 281474976710656) :
    Calls Tryz.prog 52 #[.slice (some ⟨g, 0, none⟩) ms.length cap, .func (.func 53) #[] #[]] w fun e w' => e = .returned (.tuple #[]) ∧ w.grownBy w' (some g) ∧
      ∀ j, j < (sortM ms).length → w'.cell? ⟨g, j * 2, none⟩ = some (encStr ((sortM ms).getD j ([], 0)).1) ∧ w'.cell? ⟨g, j * 2 + 1, none⟩ = some (.int .i64 (((sortM ms).getD j ([], 0)).2 : Nat)) := by
  have hH := holdsK_of hc hf
  have h := AnyQ.slices_SortFunc_total Tryz.sort52 2 Tryz.isAgg38 Tryz.sizeOf38 encM (fun _ => rfl) (fun x v hv => by simp [encM] at hv; rcases hv with rfl | rfl <;> rfl) cmpM swoM 53 #[] g 0 cap ms.toArray w
    (enters_of Tryz.func53 (by kernel_rfl) rfl) (cmpLays g _ w) hH hg (by simp; omega) totM
  change Calls Tryz.prog 52 #[.slice (some ⟨g, 0, none⟩) ms.length cap, .func (.func 53) #[] #[]] w _ at h
  refine h.mono ?_
  rintro e w' ⟨rfl, n, os, rfl⟩
  refine ⟨rfl, gsort _ _ _ _ _, ?_⟩
  have hs := holdsK_sortWorldK encM 2 w g 0 n ms.toArray (sortM ms).toArray os hg hH (by simp [sortM])
  exact of_holdsK hs

theorem sort_nil (f : Value) (w : World) : Calls Tryz.prog 52 #[.slice none 0 0, f] w fun e w' => e = .returned (.tuple #[]) ∧ w' = w :=
  AnyF.slices_SortFunc_none Tryz.sort52 none 0 f w

end Go.Proofs.YtdfnngehhiociaaGreatDoor
