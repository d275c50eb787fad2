import Derived.Test.YtdfnngehhiociaaGreatDoorLaw
import Derived.KernelRfl
namespace Go.Proofs.YtdfnngehhiociaaGreatDoor
open Go.RowKit Go.Maps Go.WideMaps Go.Sort
open Go.Proofs (encStr)

def fourW : List ByteArray := [⟨#[99, 97, 116]⟩, ⟨#[97, 99, 116]⟩, ⟨#[99, 97, 116, 115]⟩, ⟨#[100, 111, 103]⟩]
def four : List Bs := [[99, 97, 116], [97, 99, 116], [99, 97, 116, 115], [100, 111, 103]]

theorem four_map : fourW.map bs = four := rfl
theorem four_with : withR [] four = (four, 0, 0) := by kernel_rfl
theorem four_found : foundL (runesD [99, 116, 97]) 1 four = [([99, 97, 116], 1)] := by kernel_rfl
theorem four_near : nearL four [99, 116, 97] 1 9 = [([99, 97, 116], 1)] := by
  unfold nearL
  rw [four_found]
  simp [sortM]
theorem cta_wrong : wrong (bs ⟨#[99, 116, 97]⟩) = 0 := by kernel_rfl

set_option maxHeartbeats 1000000 in
set_option maxRecDepth 100000 in
theorem alive_any (w : World) (hT : Tabs w) : Calls Tryz.prog 14 #[] w fun e w' => e = .returned (.bool true) ∧ w.grownBy w' none := by
  have hga := grownBy_none_alloc w (.cells #[.string ⟨#[99, 97, 116]⟩, .string ⟨#[97, 99, 116]⟩, .string ⟨#[99, 97, 116, 115]⟩, .string ⟨#[100, 111, 103]⟩] 9)
  have hc : ∀ j, j < fourW.length → (w.alloc (.cells #[.string ⟨#[99, 97, 116]⟩, .string ⟨#[97, 99, 116]⟩, .string ⟨#[99, 97, 116, 115]⟩, .string ⟨#[100, 111, 103]⟩] 9)).cell? ⟨w.heap.size, 0 + j, none⟩ = some (.string (fourW.getD j ByteArray.empty)) := by
    intro j hj
    rw [Nat.zero_add, cell_of_row _ _ _ _ 9 (0, 0) (Go.heap_alloc_new w _)]
    have hj4 : j < 4 := hj
    match j, hj4 with
    | 0, _ => rfl
    | 1, _ => rfl
    | 2, _ => rfl
    | 3, _ => rfl
  have hB := build_any fourW (.slice (some ⟨w.heap.size, 0, none⟩) 4 4) (w.alloc (.cells #[.string ⟨#[99, 97, 116]⟩, .string ⟨#[97, 99, 116]⟩, .string ⟨#[99, 97, 116, 115]⟩, .string ⟨#[100, 111, 103]⟩] 9)) (hT.none hga) (Or.inr ⟨w.heap.size, 0, 4, rfl, hc⟩) (by decide) (by intro x hx; simp [fourW] at hx; rcases hx with rfl | rfl | rfl | rfl <;> decide)
  rw [four_map, four_with] at hB
  have HB := hide hB
  have HT := hide (hT.none hga)
  have HG := hide hga
  clear hB hc hga hT
  go_enter Tryz.func14, Tryz.ntmps14
  go_wp2_with fail
  refine (unhide HB).mono ?_
  rintro e w1 ⟨hg1, ⟨h0, p, rfl, hL⟩ | ⟨h0, rfl⟩⟩
  · have hN := near_any p 1 9 four ⟨#[99, 116, 97]⟩ w1 hL ((unhide HT).none hg1) cta_wrong (by decide) (by decide)
    rw [show bs ⟨#[99, 116, 97]⟩ = [99, 116, 97] from rfl, four_near] at hN
    change Calls Tryz.prog 12 #[.pointer (some ⟨p, 0, none⟩), .string ⟨#[99, 116, 97]⟩, .int .i64 1, .int .i64 9] w1 _ at hN
    have HN := hide hN
    have HL := hide hL
    clear hN h0 hL
    go_wp2_with (go_at_call 13; refine (num_any _ _).mono ?_; rintro e w' ⟨rfl, rfl⟩)
    refine (unhide HN).mono ?_
    rintro e w2 ⟨v, rfl, hrow, hg2⟩
    rcases hrow with ⟨rfl, hnil⟩ | ⟨g, cap, rfl, hcells⟩
    · cases hnil
    · have h00 : w2.cell? ⟨g, 0, none⟩ = some (.string ⟨#[99, 97, 116]⟩) := (hcells 0 (by decide)).1
      have h01 : w2.cell? ⟨g, 1, none⟩ = some (.int .i64 1) := (hcells 0 (by decide)).2
      have hW := words_any p four w2 ((unhide HL).kept hg2)
      have HW := hide hW
      clear hcells hW
      go_wp2_with (first | (go_at_call 13; refine (num_any _ _).mono ?_; rintro e w' ⟨rfl, rfl⟩) | (go_at_call 8; refine (unhide HW).mono ?_; rintro e w' ⟨rfl, rfl⟩))
      go_ret
      exact ⟨rfl, gnone (gnone (unhide HG) hg1) hg2⟩
  · exact absurd rfl h0

end Go.Proofs.YtdfnngehhiociaaGreatDoor
