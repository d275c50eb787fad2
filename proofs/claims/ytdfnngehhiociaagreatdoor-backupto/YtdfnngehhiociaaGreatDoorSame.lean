import Derived.Test.YtdfnngehhiociaaGreatDoorRt
namespace Go.Proofs.YtdfnngehhiociaaGreatDoor
open Go.RowKit
open Go.Proofs (encStr)

theorem SRow.form {w : World} {v : Value} {xs : List Bs} (h : SRow w v xs) : ∃ ad cap, v = .slice ad xs.length cap ∧ ∀ k, k < xs.length → ∃ g, ad = some ⟨g, 0, none⟩ ∧ w.cell? ⟨g, k, none⟩ = some (encStr (xs.getD k [])) := by
  rcases h with ⟨rfl, rfl⟩ | ⟨g, cap, rfl, hc⟩
  · exact ⟨none, 0, rfl, fun k hk => by simp at hk⟩
  · exact ⟨_, _, rfl, fun k hk => ⟨g, rfl, hc k hk⟩⟩

set_option maxHeartbeats 400000 in
set_option maxRecDepth 100000 in
theorem same_true (v u : Value) (xs : List Bs) (w : World) (hv : SRow w v xs) (hu : SRow w u xs) (hl : xs.length ≤ 40) : Calls Tryz.prog 23 #[v, u] w fun e w' => e = .returned (.bool true) ∧ w.grownBy w' none := by
  obtain ⟨ad, cap, rfl, h1⟩ := hv.form
  obtain ⟨ad2, cap2, rfl, h2⟩ := hu.form
  have H1 := hide h1
  have H2 := hide h2
  clear h1 h2 hv hu
  go_enter Tryz.func23, Tryz.ntmps23
  go_wp2_with fail
  go_loopw [5] (fun i wr => ∃ k : Nat, k ≤ xs.length ∧ i = .int .i64 k ∧ Hid (w.grownBy wr none)) (fun i _ => xs.length - (intOf i).toNat)
  case atStart => exact ⟨0, Nat.zero_le _, rfl, grownBy_refl _ _⟩
  case round =>
    obtain ⟨k, hk, rfl, Hg⟩ := hrel
    by_cases hlt : k < xs.length
    · obtain ⟨g, rfl, c1⟩ := unhide H1 k hlt
      obtain ⟨g2, rfl, c2⟩ := unhide H2 k hlt
      have d1 := (unhide Hg).cell c1 (by simp)
      have d2 := (unhide Hg).cell c2 (by simp)
      generalize xs.getD k [] = x at d1 d2
      clear c1 c2
      go_wp2_with fail
      go_region
      all_goals
        go_wp2_with fail
        go_roundw
        case rel => exact ⟨k + 1, by omega, by go_num, gnone (unhide Hg) (grownBy_drew (grownBy_refl _ _))⟩
        case measure => simp [intOf]; omega
    · obtain rfl : k = xs.length := by omega
      go_wp2_with fail
      go_ret
      exact ⟨rfl, unhide Hg⟩

end Go.Proofs.YtdfnngehhiociaaGreatDoor
