import Derived.Test.YtdfnngehhiociaaGreatDoorEach
namespace Go.Proofs.YtdfnngehhiociaaGreatDoor
open Go.RowKit Go.Maps Go.WideMaps
open Go.Proofs (encStr)

set_option maxRecDepth 100000 in
theorem each_nil (f : Value) (w : World) : Calls Tryz.prog 43 #[.map none, f] w fun e w' => e = .returned (.tuple #[]) ∧ w.grownBy w' none := by
  have hrg := run_range_nilMap (P := Tryz.prog) w 53 9 79 Tryz.underlying53
  have hnx : ∀ ty, (Instr.next (.pointer (some ⟨w.heap.size, 0, none⟩)) false ty).run Tryz.prog (w.alloc (.mapIter none 0 #[] 0)) = _ := fun ty => run_next_nilMap _ ty 0 0 #[]
  go_enter Tryz.func43, Tryz.ntmps43
  go_wp2
  refine wp_loop_rounds 1 ?_
  rw [rounds_succ]
  go_wp2
  go_end0
  exact ⟨rfl, grownBy_none_alloc _ _⟩

/-- A cell of a block that is no map is another block's than a map's. -/
theorem IsSet.ne {w : World} {b : Nat} {L : List Bs} (h : IsSet w b L) {c o : Nat} {v : Value} (hc : w.cell? ⟨c, o, none⟩ = some v) : c ≠ b := by
  obtain ⟨D, ⟨es, clock, hb, _⟩, _⟩ := h
  intro e
  subst e
  simp [World.cell?, hb] at hc

/-- The closure of 'beginning': a word that begins so is put into the other set. -/
theorem begin1_any (p x : ByteArray) (cp cf b : Nat) (L : List Bs) (w : World) (hp : w.cell? ⟨cp, 0, none⟩ = some (.string p)) (hf : w.cell? ⟨cf, 0, none⟩ = some (.map (some b)))
    (hS : IsSet w b L) (hn : bs x ∉ L) (hs : x.size ≤ 281474976710656) (hL : L.length < 281474976710656) :
    Calls Tryz.prog 44 #[.string x, .pointer (some ⟨cp, 0, none⟩), .pointer (some ⟨cf, 0, none⟩)] w fun e w' => e = .returned (.tuple #[]) ∧ IsSet w' b (if Lib.hasPrefix (bs x) (bs p) then L ++ [bs x] else L) ∧ w.grownBy w' (some b) := by
  cases hc : Lib.hasPrefix (bs x) (bs p) with
  | true =>
    go_enter Tryz.func44, Tryz.ntmps44
    go_wp2_with (first
      | (go_at_call 45; refine (Tryz.strings_HasPrefix _ _ _).mono ?_; rintro e w' ⟨rfl, rfl⟩)
      | (go_at_call 46; refine (put_any b L _ _ hS hn hs hL).mono ?_; rintro e w' ⟨rfl, h1, h2⟩))
    go_end0
    exact ⟨rfl, by simpa using h1, h2⟩
  | false =>
    go_enter Tryz.func44, Tryz.ntmps44
    go_wp2_with (first
      | (go_at_call 45; refine (Tryz.strings_HasPrefix _ _ _).mono ?_; rintro e w' ⟨rfl, rfl⟩))
    go_end0
    exact ⟨rfl, hS, grownBy_refl _ _⟩

theorem cell_kept {w w' : World} {row : Option Nat} {c o : Nat} {v : Value} (h : w.cell? ⟨c, o, none⟩ = some v) (hg : w.grownBy w' row) (hne : some c ≠ row) : w'.cell? ⟨c, o, none⟩ = some v :=
  hg.cell h hne

/-- 'beginning' of a map: a new set of the words that begin so. -/
theorem beginning_any (mb : Option Nat) (p : ByteArray) (L : List Bs) (w : World) (hM : IsMapOf w mb L) (hl : ∀ x ∈ L, x.length ≤ 281474976710656) (hL : L.length < 281474976710656) :
    Calls Tryz.prog 25 #[.map mb, .string p] w fun e w' => ∃ b, e = .returned (.map (some b)) ∧ IsSet w' b (L.filter (fun x => Lib.hasPrefix x (bs p))) ∧ w.heap.size ≤ b ∧ w.grownBy w' none := by
  have hmm := @run_makeMap Tryz.prog
  have hS0 : IsSet ((w.alloc (.cells #[.string p] 9)).alloc (.map #[] 0)) (w.heap.size + 1) [] := by
    have := IsSet.made (w.alloc (.cells #[.string p] 9))
    simpa using this
  have hS1 : IsSet (((w.alloc (.cells #[.string p] 9)).alloc (.map #[] 0)).alloc (.cells #[.map (some (w.heap.size + 1))] 53)) (w.heap.size + 1) [] := hS0.kept (grownBy_none_alloc _ _) (by simp)
  have hg0 : w.grownBy (((w.alloc (.cells #[.string p] 9)).alloc (.map #[] 0)).alloc (.cells #[.map (some (w.heap.size + 1))] 53)) none :=
    gnone (gnone (grownBy_none_alloc _ _) (grownBy_none_alloc _ _)) (grownBy_none_alloc _ _)
  have hc0 : (((w.alloc (.cells #[.string p] 9)).alloc (.map #[] 0)).alloc (.cells #[.map (some (w.heap.size + 1))] 53)).cell? ⟨w.heap.size, 0, none⟩ = some (.string p) := by
    go_simp
  have hc2 : (((w.alloc (.cells #[.string p] 9)).alloc (.map #[] 0)).alloc (.cells #[.map (some (w.heap.size + 1))] 53)).cell? ⟨w.heap.size + 1 + 1, 0, none⟩ = some (.map (some (w.heap.size + 1))) := by
    go_simp
  cases mb with
  | none =>
    have hL0 : L = [] := hM
    subst hL0
    go_enter Tryz.func25, Tryz.ntmps25
    go_wp2_with fail
    refine (each_nil _ _).mono ?_
    rintro e w1 ⟨rfl, hg⟩
    have hc := cell_kept hc2 hg (by simp)
    go_wp2
    go_ret
    exact ⟨_, rfl, hS1.kept hg (by simp), by omega, gnone hg0 hg⟩
  | some b =>
    have hS : IsSet w b L := hM
    have hlt := hS.lt
    have hS' := hS.kept hg0 (by simp)
    have hE := each_any b L 44 #[.pointer (some ⟨w.heap.size, 0, none⟩), .pointer (some ⟨w.heap.size + 1 + 1, 0, none⟩)] (some (w.heap.size + 1))
      (fun ss w1 => IsSet w1 (w.heap.size + 1) (ss.filter (fun x => Lib.hasPrefix x (bs p))) ∧ w1.cell? ⟨w.heap.size, 0, none⟩ = some (.string p) ∧ w1.cell? ⟨w.heap.size + 1 + 1, 0, none⟩ = some (.map (some (w.heap.size + 1)))) _ hS'
      (fun ss w1 w2 r ⟨i1, i2, i3⟩ hg hr => by
        simp at hr
        exact ⟨i1.kept hg (fun e => by have := Option.some.inj e; omega), cell_kept i2 hg (fun e => by have := Option.some.inj e; omega), cell_kept i3 hg (fun e => by have := Option.some.inj e; omega)⟩)
      ⟨hS1, hc0, hc2⟩ (fun j hj => by cases hj; simp; omega) (enters_of Tryz.func44 (by kernel_rfl) rfl)
      (fun x ss w1 hx hn hss ⟨i1, i2, i3⟩ hg => by
        have hlen : (ss.filter (fun x => Lib.hasPrefix x (bs p))).length < 281474976710656 := Nat.lt_of_le_of_lt (List.length_filter_le _ _) (by omega)
        refine (begin1_any p ⟨x.toArray⟩ w.heap.size (w.heap.size + 1 + 1) (w.heap.size + 1) _ w1 i2 i3 i1 (fun hm => hn (by simpa using (List.mem_filter.1 hm).1)) (by simpa [ByteArray.size] using hl x hx) hlen).mono ?_
        rintro e w2 ⟨rfl, j1, j2⟩
        refine ⟨rfl, ⟨?_, cell_kept i2 j2 (fun e => by have := Option.some.inj e; omega), cell_kept i3 j2 (fun e => by have := Option.some.inj e; omega)⟩, j2⟩
        have e1 : bs ⟨x.toArray⟩ = x := by simp
        rw [e1] at j1
        rw [List.filter_append]
        cases hh : Lib.hasPrefix x (bs p) <;> simp [hh] at j1 ⊢ <;> exact j1)
    have HE := hide hE
    clear hE
    go_enter Tryz.func25, Tryz.ntmps25
    go_wp2_with fail
    refine (unhide HE).mono ?_
    rintro e w1 ⟨rfl, ss, hp, ⟨j1, j2, j3⟩, hg⟩
    go_wp2
    go_ret
    exact ⟨_, rfl, j1.perm (hp.filter _), by omega, gnew hg0 hg (fun j hj => by cases hj; omega)⟩

end Go.Proofs.YtdfnngehhiociaaGreatDoor
