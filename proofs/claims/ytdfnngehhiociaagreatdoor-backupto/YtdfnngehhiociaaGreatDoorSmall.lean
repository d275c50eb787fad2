import Derived.Test.YtdfnngehhiociaaGreatDoorProg
import Derived.WalkKit
import Derived.Handy
namespace Go.Proofs.YtdfnngehhiociaaGreatDoor
open Go.RowKit

/-- change: 0 for the same rune, else 1. -/
def chg (a b : Int) : Int := if a = b then 0 else 1

theorem change_any (a b : Int) (w : World) : Calls Tryz.prog 76 #[.int .i32 a, .int .i32 b] w fun e w' => e = .returned (.int .i64 (chg a b)) ∧ w' = w := by
  by_cases h : a = b
  · have hb : (a == b) = true := by simp [h]
    go_enter Tryz.func76, Tryz.ntmps76
    go_wp2
    go_ret
    exact ⟨by simp [chg, h], rfl⟩
  · have hb : (a == b) = false := by simp [h]
    go_enter Tryz.func76, Tryz.ntmps76
    go_wp2
    go_ret
    exact ⟨by simp [chg, h], rfl⟩

theorem num_any (a : Int) (w : World) : Calls Tryz.prog 13 #[.int .i64 a] w fun e w' => e = .returned (.int .i64 a) ∧ w' = w := by
  go_enter Tryz.func13, Tryz.ntmps13
  go_wp2
  go_ret
  exact ⟨rfl, rfl⟩

theorem settled_bad (m : Value) (c at' : Int) (w : World) (h : (c == 0) = false) : Calls Tryz.prog 41 #[m, .int .i64 c, .int .i64 at'] w fun e w' => e = .returned (.tuple #[.pointer none, .int .i64 c, .int .i64 at']) ∧ w' = w := by
  go_enter Tryz.func41, Tryz.ntmps41
  go_wp2
  go_ret3
  exact ⟨rfl, rfl⟩

theorem settled_good (mb : Option Nat) (at' : Int) (w : World) : Calls Tryz.prog 41 #[.map mb, .int .i64 0, .int .i64 at'] w fun e w' => e = .returned (.tuple #[.pointer (some ⟨w.heap.size, 0, none⟩), .int .i64 0, .int .i64 0]) ∧ w' = w.alloc (.cells #[.map mb] 55) := by
  go_enter Tryz.func41, Tryz.ntmps41
  go_wp2
  go_ret3
  exact ⟨rfl, rfl⟩

end Go.Proofs.YtdfnngehhiociaaGreatDoor
