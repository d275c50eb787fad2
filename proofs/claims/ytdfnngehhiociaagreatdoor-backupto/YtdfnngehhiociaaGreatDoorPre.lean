import Derived.Test.YtdfnngehhiociaaGreatDoorAsk
namespace Go.Proofs.YtdfnngehhiociaaGreatDoor
open Go.RowKit
open Go.Proofs (encStr)

theorem row_low {w : World} {base base' : Nat} {e : TypeId} {size : Nat} {v : Value} {n : Nat} {xs : List Value} (h : w.ownsRow base e size v n xs) (hb : base' ≤ base) : w.ownsRow base' e size v n xs := by
  refine ⟨h.1, ?_⟩
  rcases h.2 with h0 | ⟨g, cap, cur, hv, hbg, rest⟩
  · exact Or.inl h0
  · exact Or.inr ⟨g, cap, cur, hv, Nat.le_trans hb hbg, rest⟩

theorem starts_all (x : Bs) : Lib.hasPrefix x [] = true := by
  cases x <;> rfl

/-- All words: a new row. -/
theorem prefix_row (p : Nat) (L : List Bs) (w : World) (hL : IsLex w p L) :
    Calls Tryz.prog 9 #[.pointer (some ⟨p, 0, none⟩), .string ⟨#[]⟩] w fun e w' => ∃ v, e = .returned v ∧ w'.ownsRow w.heap.size 9 1 v L.length ((sorted L).map encStr) ∧ w.grownBy w' none := by
  obtain ⟨b, hp, hS, hG⟩ := hL
  have h40 := hG.1
  have hF : L.filter (fun x => Lib.hasPrefix x (bs ⟨#[]⟩)) = L := List.filter_eq_self.2 (fun x _ => starts_all x)
  have hB := beginning_any (some b) ⟨#[]⟩ L w hS hG.le (by omega)
  rw [hF] at hB
  have HB := hide hB
  clear hB hF
  go_enter Tryz.func9, Tryz.ntmps9
  go_wp2_with fail
  refine (unhide HB).mono ?_
  rintro e w1 ⟨b1, rfl, hS1, hb1, hg1⟩
  go_wp2_with fail
  refine (rising_any b1 L _ hS1 (by omega)).mono ?_
  rintro e w2 ⟨v, rfl, hrow, hnil, hg2⟩
  go_wp2
  go_ret
  exact ⟨v, rfl, row_low hrow hg1.size, gnone hg1 hg2⟩

end Go.Proofs.YtdfnngehhiociaaGreatDoor
