import Derived.Test.YtdfnngehhiociaaGreatDoorProg
import Derived.Maps.OwnSet
import Derived.Maps.RangeWalk
import Derived.Sort.KeysCollected
import Derived.WalkKit
namespace Go.Proofs.YtdfnngehhiociaaGreatDoor
open Go.RowKit Go.Maps

theorem hide {p : Prop} (h : p) : Hid p := h
theorem unhide {p : Prop} (h : Hid p) : p := h

/-- A word, as its bytes. -/
abbrev Bs := List UInt8

theorem law9 : Keyed Tryz.prog 9 := string_keyed Tryz.underlying9
theorem zero72 (w : World) : (zeroValue 79).run Tryz.prog w = .ok (.agg #[]) w := by kernel_rfl

/-- Block b of w is a set of just the words of L (none of them twice). -/
def IsSet (w : World) (b : Nat) (L : List Bs) : Prop :=
  ∃ D : DataW Unit, w.ownsMap Tryz.prog 9 unitElem b L.length D ∧ L.Nodup ∧ (∀ s, has D (.string s) = true ↔ s ∈ L) ∧ Maps.size D = L.length

theorem ownsMap_tight {H : Type} {w : World} {P : Program} {k : TypeId} {R : Value → Option (DataW H × List MemPlace)} {b n : Nat} {D : DataW H} (h : w.ownsMap P k R b n D) {m : Nat} (hm : Maps.size D ≤ m) : w.ownsMap P k R b m D := by
  obtain ⟨es, clock, hb, F, _, rfl⟩ := h
  refine ⟨es, clock, hb, F, ?_, rfl⟩
  simpa [Maps.size, length_sorted] using hm

theorem IsSet.lt {w : World} {b : Nat} {L : List Bs} (h : IsSet w b L) : b < w.heap.size := by
  obtain ⟨D, h, _⟩ := h; exact h.lt
theorem IsSet.nodup {w : World} {b : Nat} {L : List Bs} (h : IsSet w b L) : L.Nodup := by
  obtain ⟨D, _, h, _⟩ := h; exact h

theorem IsSet.made (w : World) : IsSet (w.alloc (.map #[] 0)) w.heap.size [] :=
  ⟨.map [], World.ownsMap_made _ _ _ _, List.nodup_nil, fun s => by simp [has_eq], rfl⟩

theorem IsSet.perm {w : World} {b : Nat} {L L' : List Bs} (h : IsSet w b L) (hp : L.Perm L') : IsSet w b L' := by
  obtain ⟨D, h1, h2, h3, h4⟩ := h
  exact ⟨D, by rw [← hp.length_eq]; exact h1, hp.nodup_iff.1 h2, fun s => (h3 s).trans hp.mem_iff, h4.trans hp.length_eq⟩

theorem IsSet.kept {w w' : World} {b : Nat} {L : List Bs} {row : Option Nat} (h : IsSet w b L) (hg : w.grownBy w' row) (hne : some b ≠ row) : IsSet w' b L := by
  obtain ⟨D, h1, h2⟩ := h
  exact ⟨D, h1.kept hg hne, h2⟩

/-- The words of the datum are those of L. -/
theorem IsSet.keys {w : World} {b : Nat} {L : List Bs} (h : IsSet w b L) : ∃ D : DataW Unit, w.ownsMap Tryz.prog 9 unitElem b L.length D ∧ L.Perm (strKeys D) ∧ (∀ s, has D (.string s) = true ↔ s ∈ L) ∧ Maps.size D = L.length := by
  obtain ⟨D, h1, h2, h3, h4⟩ := h
  refine ⟨D, h1, ?_, h3, h4⟩
  exact Collected.perm (left := fun _ => false) (ss := L) ⟨h2, fun x => by simp [h3 x]⟩ h1 law9 Tryz.underlying9 (fun _ => rfl)

theorem IsSet.le {w : World} {b : Nat} {L : List Bs} (h : IsSet w b L) : ∀ x ∈ L, x.length ≤ maxLen := by
  obtain ⟨D, h1, h2, _⟩ := h.keys
  intro x hx
  exact strKeys_le h1 Tryz.underlying9 x (h2.mem_iff.1 hx)

/-- A map that may be nil. -/
def IsMapOf (w : World) (mb : Option Nat) (L : List Bs) : Prop :=
  match mb with
  | none => L = []
  | some b => IsSet w b L

theorem grownBy_none_alloc (w : World) (o : Obj) : w.grownBy (w.alloc o) none := World.grownBy_alloc w o none
theorem grownBy_refl (w : World) (row : Option Nat) : w.grownBy w row := ⟨rfl, rfl, rfl, Nat.le_refl _, fun _ _ _ => rfl⟩
theorem grownBy_drew {w w' : World} {row : Option Nat} (h : w.grownBy w' row) : w.grownBy w'.drew row := ⟨h.os, h.tape, h.output, h.size, h.block⟩
theorem grownBy_below {w w' : World} (h : w.grownBy w' none) : Below w.heap.size w w' := ⟨h.os, h.tape, h.output, h.size, fun k hk => h.block k hk (by simp)⟩
theorem below_grownBy {w w' : World} (h : Below w.heap.size w w') (row : Option Nat) : w.grownBy w' row := ⟨h.os, h.tape, h.output, h.size, fun k hk _ => h.block k hk⟩

theorem gtrans {a b c : World} {row : Option Nat} (h : a.grownBy b row) (k : b.grownBy c row) : a.grownBy c row :=
  h.andThen k (fun _ hj => Or.inr hj)
/-- Then blocks that are new have turned. -/
theorem gnew {a b c : World} {row row' : Option Nat} (h : a.grownBy b row) (k : b.grownBy c row') (hr : ∀ j, row' = some j → a.heap.size ≤ j) : a.grownBy c row :=
  h.andThen k (fun j hj => Or.inl (hr j hj))
theorem gnone {a b c : World} {row : Option Nat} (h : a.grownBy b row) (k : b.grownBy c none) : a.grownBy c row :=
  h.andThen k (fun j hj => by cases hj)

end Go.Proofs.YtdfnngehhiociaaGreatDoor
