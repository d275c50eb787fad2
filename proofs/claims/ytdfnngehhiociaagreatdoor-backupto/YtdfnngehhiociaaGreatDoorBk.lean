import Derived.Test.YtdfnngehhiociaaGreatDoorLex
namespace Go.Proofs.YtdfnngehhiociaaGreatDoor
open Go.RowKit

theorem leave_one {L : List Bs} {x : Bs} (hG : Good L) (hx : x ∈ L) : withoutR L [x] = (L.erase x, 0, 0) := by
  have hw := hG.2 x hx
  have he : leaveE L x = 0 := by simp [leaveE, hw, hx]
  simp [withoutR, tryAll, he, leaveN]

theorem come_back {L : List Bs} {x : Bs} (hG : Good L) (hn : L.Nodup) (hx : x ∈ L) : withR (L.erase x) [x] = (L.erase x ++ [x], 0, 0) := by
  have hw := hG.2 x hx
  have hnx : x ∉ L.erase x := fun h => (List.Nodup.mem_erase_iff hn).1 h |>.1 rfl
  have hl : ¬ 40 ≤ (L.erase x).length := by
    have h1 := hG.1
    rw [List.length_erase_of_mem hx]
    have := List.length_pos_of_mem hx
    omega
  have he : comeE (L.erase x) x = 0 := by simp [comeE, hw, hnx, hl]
  simp [withR, tryAll, he, comeN]

theorem back_perm {L : List Bs} {x : Bs} (hx : x ∈ L) : (L.erase x ++ [x]).Perm L :=
  (List.perm_append_comm).trans (List.perm_cons_erase hx).symm

theorem gone {L : List Bs} {x : Bs} (hn : L.Nodup) : x ∉ L.erase x := fun h => (List.Nodup.mem_erase_iff hn).1 h |>.1 rfl

end Go.Proofs.YtdfnngehhiociaaGreatDoor
