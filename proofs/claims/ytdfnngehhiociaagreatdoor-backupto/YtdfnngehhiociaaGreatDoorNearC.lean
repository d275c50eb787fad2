import Derived.Test.YtdfnngehhiociaaGreatDoorNear
namespace Go.Proofs.YtdfnngehhiociaaGreatDoor
open Go.RowKit Go.Maps Go.WideMaps Go.Sort
open Go.Proofs (encStr)

/-- What Near tells of these words. -/
def nearL (L : List Bs) (x : Bs) (f most : Nat) : List (Bs × Nat) := (sortM (foundL (runesD x) f L)).take most

set_option maxRecDepth 100000 in
theorem near_any (p f most : Nat) (L : List Bs) (x : ByteArray) (w : World) (hL : IsLex w p L) (hT : Tabs w) (hx : wrong (bs x) = 0) (hf : f ≤ 3) (hmost : most ≤ 9223372036854775807) :
    Calls Tryz.prog 12 #[.pointer (some ⟨p, 0, none⟩), .string x, .int .i64 f, .int .i64 most] w fun e w' => ∃ v, e = .returned (.tuple #[v, .int .i64 0]) ∧ MRow w' v (nearL L (bs x) f most) ∧ w.grownBy w' none := by
  obtain ⟨b, hp, hS, hG⟩ := hL
  have h40 := hG.1
  have hxl := wrong_len hx
  have hsz : x.size = (bs x).length := (Array.length_toList (xs := x.data)).symm
  have hW := wrongWith_any valid_said x w (by omega) hT
  rw [hx] at hW
  have HW := hide hW
  have HX := hide hx
  have hf0 : ¬ (f : Int) < 0 := by omega
  have hf3 : ¬ (3 : Int) < (f : Int) := by omega
  have hm0 : ¬ (most : Int) < 0 := by omega
  have hfl := foundL_le (runesD (bs x)) f L
  clear hW hx hsz hxl
  go_enter Tryz.func12, Tryz.ntmps12
  go_wp2_with fail
  refine (unhide HW).mono ?_
  rintro e w1 ⟨rfl, hg1⟩
  have hp1 := cell_kept hp hg1 (by simp)
  go_wp2_with fail
  refine (within_any b f x L _ (hS.kept hg1 (by simp)) hG (unhide HX)).mono ?_
  rintro e w2 ⟨b2, rfl, hF, hb2, hg2⟩
  go_wp2_with fail
  refine (nearest_any b2 most _ _ hF (by omega) hmost).mono ?_
  rintro e w3 ⟨v, rfl, hrow, hg3⟩
  go_wp2
  go_ret2
  exact ⟨v, rfl, hrow, gnone (gnone hg1 hg2) hg3⟩

end Go.Proofs.YtdfnngehhiociaaGreatDoor
