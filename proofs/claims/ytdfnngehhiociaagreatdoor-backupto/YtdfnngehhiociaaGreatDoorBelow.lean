import Derived.Test.YtdfnngehhiociaaGreatDoorBegin
namespace Go.Proofs.YtdfnngehhiociaaGreatDoor
open Go.RowKit Go.Maps Go.WideMaps
open Go.Proofs (encStr)

theorem hasPrefix_nil (x : Bs) : Lib.hasPrefix x (bs ⟨#[]⟩) = true := by
  simp [Lib.hasPrefix, bs]

/-- 'copied': the same words in new memory. -/
theorem copied_any (mb : Option Nat) (L : List Bs) (w : World) (hM : IsMapOf w mb L) (hl : ∀ x ∈ L, x.length ≤ 281474976710656) (hL : L.length < 281474976710656) :
    Calls Tryz.prog 27 #[.map mb] w fun e w' => ∃ b, e = .returned (.map (some b)) ∧ IsSet w' b L ∧ w.heap.size ≤ b ∧ w.grownBy w' none := by
  go_enter Tryz.func27, Tryz.ntmps27
  go_wp2_with fail
  refine (beginning_any mb ⟨#[]⟩ L _ hM hl hL).mono ?_
  rintro e w1 ⟨b, rfl, hS, hb, hg⟩
  have hf : L.filter (fun x => Lib.hasPrefix x (bs ⟨#[]⟩)) = L := List.filter_eq_self.2 (fun x _ => hasPrefix_nil x)
  rw [hf] at hS
  go_wp2
  go_ret
  exact ⟨b, rfl, hS, hb, hg⟩

/-- How many words of the list are lower. -/
def lower (s : Bs) (L : List Bs) : Nat := L.countP (fun x => decide (x < s))

theorem bytesLess_eq : ∀ (x y : List UInt8), Op.bytesLess x y = decide (x < y)
  | [], [] => by simp [Op.bytesLess]
  | _ :: _, [] => by simp [Op.bytesLess]
  | [], _ :: _ => by simp [Op.bytesLess]
  | a :: x, b :: y => by
    rw [Op.bytesLess, bytesLess_eq x y]
    simp only [List.cons_lt_cons_iff]
    by_cases h1 : a < b <;> by_cases h2 : a = b <;> by_cases h3 : x < y <;> simp [h1, h2, h3]

/-- Go's '<' on strings. -/
theorem less_eq (x y : ByteArray) : Op.bytesLess x.toList y.toList = decide (bs x < bs y) := by
  rw [ByteArray.toList_eq, ByteArray.toList_eq, bytesLess_eq]

theorem gset (w : World) (a : Addr) (v : Value) : w.grownBy (w.setCell a v) (some a.block) :=
  ⟨rfl, rfl, rfl, by simp, fun i _ hi => Below.heap_setCell w a v i (fun e => hi (by rw [e]))⟩

theorem lt_of_cell {w : World} {c o : Nat} {v : Value} (h : w.cell? ⟨c, o, none⟩ = some v) : c < w.heap.size := by
  apply Classical.byContradiction
  intro hn
  have : w.heap[c]? = none := Array.getElem?_eq_none (by omega)
  simp [World.cell?, this] at h

theorem frozen_kept {w w' : World} {row : Option Nat} {c o : Nat} (hf : w.frozen? ⟨c, o, none⟩ = false) (hc : c < w.heap.size) (hg : w.grownBy w' row) (hne : some c ≠ row) : w'.frozen? ⟨c, o, none⟩ = false :=
  (World.frozen?_of_block (w := w) (hg.block c hc hne)).trans hf

theorem below1_any (p x : ByteArray) (cp cn n : Nat) (w : World) (hp : w.cell? ⟨cp, 0, none⟩ = some (.string p)) (hn : w.cell? ⟨cn, 0, none⟩ = some (.int .i64 n)) (hz : w.frozen? ⟨cn, 0, none⟩ = false) (hnn : n < 281474976710656) :
    Calls Tryz.prog 49 #[.string x, .pointer (some ⟨cp, 0, none⟩), .pointer (some ⟨cn, 0, none⟩)] w fun e w' => e = .returned (.tuple #[]) ∧ w' = (if bs x < bs p then w.setCell ⟨cn, 0, none⟩ (.int .i64 ((n + 1 : Nat) : Int)) else w) := by
  by_cases hlt : bs x < bs p
  · rw [if_pos hlt]
    have hb : Op.bytesLess x.toList p.toList = true := by rw [less_eq]; simpa using hlt
    go_enter Tryz.func49, Tryz.ntmps49
    go_wp2
    go_end0
    exact ⟨rfl, by simp⟩
  · rw [if_neg hlt]
    have hb : Op.bytesLess x.toList p.toList = false := by rw [less_eq]; simpa using hlt
    go_enter Tryz.func49, Tryz.ntmps49
    go_wp2
    go_end0
    exact ⟨rfl, rfl⟩

theorem lower_snoc (s x : Bs) (L : List Bs) : lower s (L ++ [x]) = if x < s then lower s L + 1 else lower s L := by
  unfold lower
  by_cases h : x < s <;> simp [h]

theorem lower_le (s : Bs) (L : List Bs) : lower s L ≤ L.length := List.countP_le_length

/-- 'below': how many words are lower. -/
theorem below_any (b : Nat) (p : ByteArray) (L : List Bs) (w : World) (hS : IsSet w b L) (hL : L.length < 281474976710656) :
    Calls Tryz.prog 29 #[.map (some b), .string p] w fun e w' => e = .returned (.int .i64 (lower (bs p) L)) ∧ w.grownBy w' none := by
  have hlt := hS.lt
  have hg0 : w.grownBy ((w.alloc (.cells #[.string p] 9)).alloc (.cells #[.int .i64 0] 3)) none := gnone (grownBy_none_alloc _ _) (grownBy_none_alloc _ _)
  have hc0 : ((w.alloc (.cells #[.string p] 9)).alloc (.cells #[.int .i64 0] 3)).cell? ⟨w.heap.size, 0, none⟩ = some (.string p) := by go_simp
  have hc1 : ((w.alloc (.cells #[.string p] 9)).alloc (.cells #[.int .i64 0] 3)).cell? ⟨w.heap.size + 1, 0, none⟩ = some (.int .i64 0) := by go_simp
  have hf1 : ((w.alloc (.cells #[.string p] 9)).alloc (.cells #[.int .i64 0] 3)).frozen? ⟨w.heap.size + 1, 0, none⟩ = false := by go_simp
  have hE := each_any b L 49 #[.pointer (some ⟨w.heap.size, 0, none⟩), .pointer (some ⟨w.heap.size + 1, 0, none⟩)] (some (w.heap.size + 1))
    (fun ss w1 => w1.cell? ⟨w.heap.size, 0, none⟩ = some (.string p) ∧ w1.cell? ⟨w.heap.size + 1, 0, none⟩ = some (.int .i64 (lower (bs p) ss)) ∧ w1.frozen? ⟨w.heap.size + 1, 0, none⟩ = false) _ (hS.kept hg0 (by simp))
    (fun ss w1 w2 r ⟨i1, i2, i3⟩ hg hr => by
      simp at hr
      have hlt2 := lt_of_cell i2
      exact ⟨cell_kept i1 hg (fun e => by have := Option.some.inj e; omega), cell_kept i2 hg (fun e => by have := Option.some.inj e; omega), frozen_kept i3 hlt2 hg (fun e => by have := Option.some.inj e; omega)⟩)
    ⟨hc0, hc1, hf1⟩ (fun j hj => by cases hj; simp; omega) (enters_of Tryz.func49 (by kernel_rfl) rfl)
    (fun x ss w1 hx hn hss ⟨i1, i2, i3⟩ hg => by
      have hle := lower_le (bs p) ss
      refine (below1_any p ⟨x.toArray⟩ w.heap.size (w.heap.size + 1) _ w1 i1 i2 i3 (by omega)).mono ?_
      rintro e w2 ⟨rfl, rfl⟩
      have e1 : bs ⟨x.toArray⟩ = x := by simp
      rw [e1, lower_snoc]
      by_cases hxp : x < bs p
      · rw [if_pos hxp, if_pos hxp]
        refine ⟨rfl, ⟨?_, World.cell?_setCell_same _ _ _ i2, by rw [World.frozen?_setCell]; exact i3⟩, gset _ _ _⟩
        rw [World.cell?_setCell_other _ _ _ _ (by intro h; simp only [Addr.mk.injEq] at h; omega)]
        exact i1
      · rw [if_neg hxp, if_neg hxp]
        exact ⟨rfl, ⟨i1, i2, i3⟩, grownBy_refl _ _⟩)
  have HE := hide hE
  clear hE
  go_enter Tryz.func29, Tryz.ntmps29
  go_wp2_with fail
  refine (unhide HE).mono ?_
  rintro e w1 ⟨rfl, ss, hp, ⟨j1, j2, j3⟩, hg⟩
  go_wp2
  go_ret
  exact ⟨by rw [show lower (bs p) L = lower (bs p) ss from (hp.countP_eq _).symm]; rfl, gnew hg0 hg (fun j hj => by cases hj; omega)⟩

end Go.Proofs.YtdfnngehhiociaaGreatDoor
