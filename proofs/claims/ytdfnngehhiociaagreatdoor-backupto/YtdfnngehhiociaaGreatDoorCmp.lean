import Derived.Test.YtdfnngehhiociaaGreatDoorWithin
import Derived.Shelf.SlSortCmp.NoneTotal
namespace Go.Proofs.YtdfnngehhiociaaGreatDoor
open Go.RowKit Go.Maps Go.WideMaps Go.Sort
open Go.Proofs (encStr)

set_option maxRecDepth 100000 in
theorem or_first (g : Nat) (x : Int) (w : World) (h0 : w.cell? ⟨g, 0, none⟩ = some (.int .i64 x)) (hx : (x == 0) = false) :
    Calls Tryz.prog 73 #[.slice (some ⟨g, 0, none⟩) 2 2] w fun e w' => e = .returned (.int .i64 x) ∧ w' = w := by
  go_enter Tryz.func73, Tryz.ntmps73
  go_wp2
  refine wp_loop_rounds 1 ?_
  rw [rounds_succ]
  go_wp2
  go_ret
  exact ⟨rfl, rfl⟩

set_option maxRecDepth 100000 in
theorem or_second (g : Nat) (y : Int) (w : World) (h0 : w.cell? ⟨g, 0, none⟩ = some (.int .i64 0)) (h1 : w.cell? ⟨g, 1, none⟩ = some (.int .i64 y)) :
    Calls Tryz.prog 73 #[.slice (some ⟨g, 0, none⟩) 2 2] w fun e w' => e = .returned (.int .i64 y) ∧ w' = w := by
  by_cases hy : y = 0
  · subst hy
    go_enter Tryz.func73, Tryz.ntmps73
    go_wp2
    refine wp_loop_rounds 3 ?_
    rw [rounds_succ]
    go_wp2
    rw [rounds_succ]
    go_wp2
    rw [rounds_succ]
    go_wp2
    go_ret
    exact ⟨rfl, rfl⟩
  · have hb : (y == 0) = false := by simpa using hy
    go_enter Tryz.func73, Tryz.ntmps73
    go_wp2
    refine wp_loop_rounds 2 ?_
    rw [rounds_succ]
    go_wp2
    rw [rounds_succ]
    go_wp2
    go_ret
    exact ⟨rfl, rfl⟩

/-- The first of the two that is not 0. -/
def orI (x y : Int) : Int := if x = 0 then y else x

/-- Which match comes first. -/
def cmpM (x y : Bs × Nat) : Int := orI (Lib.compareInt (x.2 : Nat) (y.2 : Nat)) (Lib.compareBytes x.1 y.1)

/-- A match, as it lies in memory. -/
def encM (x : Bs × Nat) : List Value := [encStr x.1, .int .i64 (x.2 : Nat)]

theorem or_any (g : Nat) (x y : Int) (w : World) (h0 : w.cell? ⟨g, 0, none⟩ = some (.int .i64 x)) (h1 : w.cell? ⟨g, 1, none⟩ = some (.int .i64 y)) :
    Calls Tryz.prog 73 #[.slice (some ⟨g, 0, none⟩) 2 2] w fun e w' => e = .returned (.int .i64 (orI x y)) ∧ w' = w := by
  unfold orI
  by_cases hx : x = 0
  · rw [if_pos hx]
    rw [hx] at h0
    exact or_second g y w h0 h1
  · rw [if_neg hx]
    exact or_first g x w h0 (by simpa using hx)

theorem grow3 (w : World) (a b c : Obj) : (((w.alloc a).alloc b).alloc c).drew = grow (w.drewN 1) #[a, b, c] := by
  have h : ((w.heap.push a).push b).push c = w.heap ++ #[a, b, c] := by
    rw [show (#[a, b, c] : Array Obj) = ((#[].push a).push b).push c from rfl, Array.append_push, Array.append_push, Array.append_push, Array.append_empty]
  show ({ (w.drewN 1) with heap := ((w.heap.push a).push b).push c } : World) = _
  rw [h]
  rfl

set_option maxHeartbeats 1000000 in
set_option maxRecDepth 100000 in
theorem nearer_any (x1 x2 : ByteArray) (n1 n2 : Int) (w : World) :
    Calls Tryz.prog 53 #[.agg #[.string x1, .int .i64 n1], .agg #[.string x2, .int .i64 n2]] w fun e w' => e = .returned (.int .i64 (orI (Lib.compareInt n1 n2) (Lib.compareBytes x1.data.toList x2.data.toList))) ∧ ∃ q os', w' = grow (w.drewN q) os' := by
  have hI := Tryz.cmp_Compare_int n1 n2
  have hS := Tryz.strings_Compare x1 x2
  generalize Lib.compareInt n1 n2 = c1 at hI ⊢
  generalize Lib.compareBytes x1.data.toList x2.data.toList = c2 at hS ⊢
  have HI := hide hI
  have HS := hide hS
  clear hI hS
  go_enter Tryz.func53, Tryz.ntmps53
  go_wp2
  go_region_held3 (fun w' => w'.cell? ⟨w.heap.size, 0, none⟩ = some (.string x1) ∧ w'.cell? ⟨w.heap.size, 1, none⟩ = some (.int .i64 n1) ∧ w'.cell? ⟨w.heap.size + 1, 0, none⟩ = some (.string x2) ∧ w'.cell? ⟨w.heap.size + 1, 1, none⟩ = some (.int .i64 n2)) (go_keep)
    ((first
      | (go_at_call 74; refine (unhide HI _).mono ?_; rintro e w' ⟨rfl, rfl⟩)
      | (go_at_call 75; refine (unhide HS _).mono ?_; rintro e w' ⟨rfl, rfl⟩)
      | (go_at_call 73; refine (or_any _ c1 c2 _ (by go_simp) (by go_simp)).mono ?_; rintro e w' ⟨rfl, rfl⟩)))
  go_wp2
  go_ret
  refine ⟨rfl, 1, #[.cells #[.string x1, .int .i64 n1] 38, .cells #[.string x2, .int .i64 n2] 38, .cells #[.int .i64 c1, .int .i64 c2] 3], ?_⟩
  exact grow3 w _ _ _

theorem cb_lt : ∀ a b : Bs, Lib.compareBytes a b < 0 ↔ a < b
  | [], [] => by simp [Lib.compareBytes]
  | [], _ :: _ => by simp [Lib.compareBytes]
  | _ :: _, [] => by simp [Lib.compareBytes]
  | a :: x, b :: y => by
    rw [List.cons_lt_cons_iff, Lib.compareBytes]
    by_cases h1 : a < b
    · simp [h1]
    · by_cases h2 : b < a
      · have hne : ¬ a = b := fun e => by subst e; exact h1 h2
        simp [h1, h2, hne]
      · have he : a = b := UInt8.le_antisymm (UInt8.not_lt.1 h2) (UInt8.not_lt.1 h1)
        simp [he, cb_lt x y]
theorem cb_eq : ∀ a b : Bs, Lib.compareBytes a b = 0 ↔ a = b
  | [], [] => by simp [Lib.compareBytes]
  | [], _ :: _ => by simp [Lib.compareBytes]
  | _ :: _, [] => by simp [Lib.compareBytes]
  | a :: x, b :: y => by
    rw [Lib.compareBytes]
    by_cases h1 : a < b
    · have hne : ¬ a = b := fun e => by subst e; exact UInt8.lt_irrefl _ h1
      simp [h1, hne]
    · by_cases h2 : b < a
      · have hne : ¬ a = b := fun e => by subst e; exact h1 h2
        simp [h1, h2, hne]
      · have he : a = b := UInt8.le_antisymm (UInt8.not_lt.1 h2) (UInt8.not_lt.1 h1)
        simp [he, cb_eq x y]

/-- The nearer one, of the same the lower one. -/
def ltM (x y : Bs × Nat) : Prop := x.2 < y.2 ∨ (x.2 = y.2 ∧ x.1 < y.1)

theorem cmpM_lt (x y : Bs × Nat) : cmpM x y < 0 ↔ ltM x y := by
  unfold cmpM orI ltM Lib.compareInt
  by_cases h1 : x.2 < y.2
  · have : ((x.2 : Nat) : Int) < (y.2 : Nat) := by omega
    simp [this, h1]
  · by_cases h2 : y.2 < x.2
    · have h2' : ((x.2 : Nat) : Int) > (y.2 : Nat) := by omega
      have h1' : ¬ ((x.2 : Nat) : Int) < (y.2 : Nat) := by omega
      have hne : ¬ x.2 = y.2 := by omega
      simp [h1', h2', h1, hne]
    · have he : x.2 = y.2 := by omega
      simp [he, cb_lt]

theorem ltOf_iff (x y : Bs × Nat) : ltOf cmpM x y = true ↔ ltM x y := by
  unfold ltOf
  rw [decide_eq_true_iff, cmpM_lt]
theorem ltOf_not (x y : Bs × Nat) : ltOf cmpM x y = false ↔ ¬ ltM x y := by
  rw [← ltOf_iff]; simp

theorem ltM_total (x y : Bs × Nat) (h1 : ¬ ltM x y) (h2 : ¬ ltM y x) : x = y := by
  unfold ltM at h1 h2
  have e2 : x.2 = y.2 := by omega
  have e1 : x.1 = y.1 := List.le_antisymm (fun h => h2 (Or.inr ⟨e2.symm, h⟩)) (fun h => h1 (Or.inr ⟨e2, h⟩))
  exact Prod.ext e1 e2
theorem ltM_irrefl (x : Bs × Nat) : ¬ ltM x x := by
  unfold ltM
  rintro (h | ⟨_, h⟩)
  · omega
  · exact List.lt_irrefl _ h
theorem ltM_trans (x y z : Bs × Nat) (h1 : ltM x y) (h2 : ltM y z) : ltM x z := by
  unfold ltM at *
  rcases h1 with h1 | ⟨e1, h1⟩ <;> rcases h2 with h2 | ⟨e2, h2⟩
  · left; omega
  · left; omega
  · left; omega
  · right; exact ⟨by omega, List.lt_trans h1 h2⟩

theorem swoM : SWO (ltOf cmpM) :=
  ⟨fun x => (ltOf_not x x).2 (ltM_irrefl x),
   fun x y z h1 h2 => (ltOf_iff x z).2 (ltM_trans x y z ((ltOf_iff x y).1 h1) ((ltOf_iff y z).1 h2)),
   fun x y z h1 h2 => by
    rw [ltOf_not] at *
    intro h
    by_cases hxy : ltM y x
    · exact h2 (ltM_trans y x z hxy h)
    · have := ltM_total x y h1 hxy
      subst this
      exact h2 h⟩
theorem totM (x y : Bs × Nat) (h1 : ltOf cmpM x y = false) (h2 : ltOf cmpM y x = false) : x = y :=
  ltM_total x y ((ltOf_not x y).1 h1) ((ltOf_not y x).1 h2)

end Go.Proofs.YtdfnngehhiociaaGreatDoor
