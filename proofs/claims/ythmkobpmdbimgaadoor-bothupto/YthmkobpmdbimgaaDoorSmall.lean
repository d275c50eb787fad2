import Derived.Test.YthmkobpmdbimgaaDoorProg
import Derived.WalkKit
import Derived.Handy
namespace Go.Proofs.YthmkobpmdbimgaaDoor
open Go.RowKit

/-- change: 0 for the same rune, else 1. -/
def chg (a b : Int) : Int := if a = b then 0 else 1

theorem change_any (a b : Int) (w : World) : Calls Tryd.prog 55 #[.int .i32 a, .int .i32 b] w fun e w' => e = .returned (.int .i64 (chg a b)) ∧ w' = w := by
  by_cases h : a = b
  · have hb : (a == b) = true := by simp [h]
    go_enter Tryd.func55, Tryd.ntmps55
    go_wp2
    go_ret
    exact ⟨by simp [chg, h], rfl⟩
  · have hb : (a == b) = false := by simp [h]
    go_enter Tryd.func55, Tryd.ntmps55
    go_wp2
    go_ret
    exact ⟨by simp [chg, h], rfl⟩

theorem num_any (a : Int) (w : World) : Calls Tryd.prog 11 #[.int .i64 a] w fun e w' => e = .returned (.int .i64 a) ∧ w' = w := by
  go_enter Tryd.func11, Tryd.ntmps11
  go_wp2
  go_ret
  exact ⟨rfl, rfl⟩

theorem decode_any (s : ByteArray) (w : World) (hs : s.size ≤ maxLen) : Calls Tryd.prog 18 #[.string s] w fun e w' => (∃ c : Int, 0 < c ∧ c < 8 ∧ e = .returned (.tuple #[.pointer none, .int .i64 c])) ∧ w' = w := by
  unfold maxLen at hs
  by_cases h : 20000 < s.size
  · go_enter Tryd.func18, Tryd.ntmps18
    go_wp2
    go_ret2
    exact ⟨⟨1, by omega, by omega, rfl⟩, rfl⟩
  · go_enter Tryd.func18, Tryd.ntmps18
    go_wp2
    go_ret2
    exact ⟨⟨7, by omega, by omega, rfl⟩, rfl⟩

theorem settled_bad (m : Value) (c at' : Int) (w : World) (h : (c == 0) = false) : Calls Tryd.prog 29 #[m, .int .i64 c, .int .i64 at'] w fun e w' => e = .returned (.tuple #[.pointer none, .int .i64 c, .int .i64 at']) ∧ w' = w := by
  go_enter Tryd.func29, Tryd.ntmps29
  go_wp2
  go_ret3
  exact ⟨rfl, rfl⟩

theorem settled_good (mb : Option Nat) (at' : Int) (w : World) : Calls Tryd.prog 29 #[.map mb, .int .i64 0, .int .i64 at'] w fun e w' => e = .returned (.tuple #[.pointer (some ⟨w.heap.size, 0, none⟩), .int .i64 0, .int .i64 0]) ∧ w' = w.alloc (.cells #[.map mb] 52) := by
  go_enter Tryd.func29, Tryd.ntmps29
  go_wp2
  go_ret3
  exact ⟨rfl, rfl⟩

end Go.Proofs.YthmkobpmdbimgaaDoor
