import Derived.Test.YtdfnngehhiociaaGreatDoorPuts
import Derived.Test.YtdfnngehhiociaaGreatDoorRunes
import Derived.Shelf.Unicode.DecodeSlow
namespace Go.Proofs.YtdfnngehhiociaaGreatDoor
open Go.RowKit Go.Maps Go.WideMaps

/-- The two tables of unicode/utf8 hold what they should. -/
def Tabs (w : World) : Prop := Lib.Utf8Tabs 0 1 w

def ValidSaid : Prop := ∀ (s : ByteArray) (w : World), s.size ≤ 9223372036854775807 → Tabs w → Calls Tryz.prog 50 #[.string s] w fun e w' => e = .returned (.bool (Lib.validD s.data.toList)) ∧ Below w.heap.size w w'

/-- What is wrong with a word (P3), by its bytes. -/
def wrong (l : Bs) : Int :=
  if l = [] ∨ Lib.validD l = false then 2
  else if 10 < (runesD l).length then 1
  else if (runesD l).any (fun r => decide (r ≤ 32)) then 2 else 0

theorem Tabs.kept {w w' : World} {row : Option Nat} (h : Tabs w) (hg : w.grownBy w' row) (h0 : some 0 ≠ row) (h1 : some 1 ≠ row) : Tabs w' :=
  ⟨fun c hc => hg.cell (h.1 c hc) h0, fun i hi => ⟨hg.cell (h.2 i hi).1 h1, hg.cell (h.2 i hi).2 h1⟩⟩

/-- A rune that no word has. -/
abbrev blankR (r : Int) : Bool := decide (r ≤ 32)

theorem drop_ne (s : ByteArray) (pos : Nat) (h : pos < s.size) : (bs s).drop pos ≠ [] := by
  intro e
  have h2 : s.data.toList.length ≤ pos := List.drop_eq_nil_iff.1 e
  have h3 : s.data.toList.length = s.size := Array.length_toList
  omega
theorem drop_end (s : ByteArray) (pos : Nat) (h : ¬ pos < s.size) : (bs s).drop pos = [] :=
  List.drop_eq_nil_iff.2 (by have h3 : s.data.toList.length = s.size := Array.length_toList; show s.data.toList.length ≤ pos; omega)

theorem runes_at (s : ByteArray) (pos : Nat) (h : pos < s.size) : runesD ((bs s).drop pos) = ((Utf8.decode s pos).1 : Int) :: runesD ((bs s).drop (pos + (Utf8.decode s pos).2)) := by
  rw [runesD_step _ (drop_ne s pos h), Lib.decodeL_drop, List.drop_drop]

theorem any_more (s : ByteArray) (pos : Nat) (h : pos < s.size) (hr : ¬ (((Utf8.decode s pos).1 : Nat) : Int) ≤ 32) : (runesD ((bs s).drop pos)).any blankR = (runesD ((bs s).drop (pos + (Utf8.decode s pos).2))).any blankR := by
  rw [runes_at s pos h, List.any_cons]
  simp [hr]
theorem any_here (s : ByteArray) (pos : Nat) (h : pos < s.size) (hr : (((Utf8.decode s pos).1 : Nat) : Int) ≤ 32) : (runesD ((bs s).drop pos)).any blankR = true := by
  rw [runes_at s pos h, List.any_cons]
  simp [hr]

theorem wrong_empty (s : ByteArray) (h : s.toList = []) : wrong (bs s) = 2 := by
  rw [ByteArray.toList_eq] at h
  unfold wrong; rw [if_pos (Or.inl h)]
theorem wrong_form (s : ByteArray) (h1 : ¬ s.toList = []) (h : s.toList.isEmpty = true ∨ (!Lib.validD s.data.toList) = true) : wrong (bs s) = 2 := by
  unfold wrong
  rw [if_pos]
  rcases h with h | h
  · exact absurd (by simpa using h) h1
  · right; simpa using h
theorem wrong_long (s : ByteArray) (h1 : ¬ s.toList = []) (h : s.toList.isEmpty = false ∧ (!Lib.validD s.data.toList) = false) (hl : 10 < ((Lib.runeCount s : Nat) : Int)) : wrong (bs s) = 1 := by
  rw [count_runes] at hl
  change (10 : Int) < (((runesD (bs s)).length : Nat) : Int) at hl
  rw [ByteArray.toList_eq] at h1
  unfold wrong
  rw [if_neg, if_pos (by omega)]
  rintro (e | e)
  · exact h1 e
  · have := h.2; simp at this; rw [this] at e; cases e
theorem wrong_last (s : ByteArray) (h1 : ¬ s.toList = []) (h : s.toList.isEmpty = false ∧ (!Lib.validD s.data.toList) = false) (hl : ((Lib.runeCount s : Nat) : Int) ≤ 10) : wrong (bs s) = if (runesD (bs s)).any blankR then 2 else 0 := by
  rw [count_runes] at hl
  change (((runesD (bs s)).length : Nat) : Int) ≤ 10 at hl
  rw [ByteArray.toList_eq] at h1
  unfold wrong
  rw [if_neg, if_neg (by omega)]
  rintro (e | e)
  · exact h1 e
  · have := h.2; simp at this; rw [this] at e; cases e

set_option maxRecDepth 100000 in
theorem wrongWith_any (hV : ValidSaid) (s : ByteArray) (w : World) (hs : s.size ≤ 281474976710656) (hT : Tabs w) :
    Calls Tryz.prog 30 #[.string s] w fun e w' => e = .returned (.int .i64 (wrong (bs s))) ∧ w.grownBy w' none := by
  go_enter Tryz.func30, Tryz.ntmps30
  go_wp2_with (first
    | (go_at_call 50; refine (hV _ _ (by omega) hT).mono ?_; rintro e w1 ⟨rfl, hb1⟩)
    | (go_at_call 51; refine (Tryz.utf8_RuneCountInString _ _ (by omega)).mono ?_; rintro e w2 ⟨rfl, hx⟩))
  · go_ret
    exact ⟨by rw [wrong_empty s ‹_›]; rfl, grownBy_refl _ _⟩
  · go_ret
    exact ⟨by rw [wrong_form s ‹_› ‹_›]; rfl, below_grownBy hb1 _⟩
  · go_ret
    obtain ⟨pos, rfl⟩ := hx
    exact ⟨by rw [wrong_long s ‹_› ‹_› ‹_›]; rfl, gnone (below_grownBy hb1 _) (grownBy_none_alloc _ _)⟩
  · have hw := wrong_last s ‹_› ‹_› ‹_›
    have hg2 : w.grownBy w2 none := by obtain ⟨pos, rfl⟩ := hx; exact gnone (below_grownBy hb1 _) (grownBy_none_alloc _ _)
    clear hx
    have HW := hide hw
    clear hw
    go_loopw [4] (fun _ wr => ∃ pos, wr = w2.iter s pos ∧ Hid ((runesD (bs s)).any blankR = (runesD ((bs s).drop pos)).any blankR)) (fun _ wr => s.size - wr.iterPos w2.heap.size)
    case atStart => exact ⟨0, rfl, rfl⟩
    case round =>
      obtain ⟨pos, rfl, hA⟩ := hrel
      by_cases hp : pos < s.size
      · have hnx : ∀ ty, (Instr.next (.pointer (some ⟨w2.heap.size, 0, none⟩)) true ty).run Tryz.prog (w2.iter s pos) = _ := fun ty => run_next_any w2 s pos ty hp
        have hwd := Lib.decode_width_pos s pos hp
        by_cases hr : (((Utf8.decode s pos).1 : Nat) : Int) ≤ 32
        · go_wp2
          go_ret
          refine ⟨?_, gnone hg2 (grownBy_none_alloc _ _)⟩
          rw [unhide HW, unhide hA, any_here s pos hp hr]
          rfl
        · go_wp2
          go_roundw
          case rel => exact ⟨pos + (Utf8.decode s pos).2, rfl, (unhide hA).trans (any_more s pos hp hr)⟩
          case measure => simp; omega
      · have hnx : ∀ ty, (Instr.next (.pointer (some ⟨w2.heap.size, 0, none⟩)) true ty).run Tryz.prog (w2.iter s pos) = _ := fun ty => run_next_end w2 s pos ty hp
        go_wp2
        go_ret
        refine ⟨?_, gnone hg2 (grownBy_none_alloc _ _)⟩
        rw [unhide HW, unhide hA, drop_end s pos hp]
        rfl

end Go.Proofs.YtdfnngehhiociaaGreatDoor
