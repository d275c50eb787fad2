import Derived.Test.YtdfnngehhiociaaGreatDoorCards
import Derived.Test.YtdfnngehhiociaaGreatDoorTie
import Derived.Test.YtdfnngehhiociaaGreatDoorRanks
import Derived.Lib.LaidIn
import Derived.Lib.LaidU8T
import Derived.Deep.DeepHandedRow
import Derived.Deep.DeepWitnessRowRef
import Derived.Deep.Slices
import Derived.ProofKit
namespace Go.Proofs.YtdfnngehhiociaaGreatDoor
open Go.ChangeShapes Go.WideShapes Go.ChangeAt Go.RowKit

theorem own : ownKnob Tryz.prog.godebug = none := by kernel_rfl
theorem laidOut : laidOutB Tryz.prog = true := by kernel_rfl
theorem cells46 : Tryz.prog.cellsOf 51 = 5 := by kernel_rfl
theorem cells3 : Tryz.prog.cellsOf 3 = 1 := by kernel_rfl
theorem cells9 : Tryz.prog.cellsOf 9 = 1 := by kernel_rfl
theorem first_eq : Rows.laid_unicode_utf8_first = Lib.firstData := by kernel_rfl
theorem pow_eq : (Rows.laid_internal_strconv_uint64pow10 : DataW Unit) = Lib.tabData .u64 Lib.pow10Tab := by kernel_rfl
theorem accept_eq : (Rows.laid_unicode_utf8_acceptRanges : DataW Unit) = Lib.acceptData := by kernel_rfl

/-- The fields of a step. -/
theorem step_fields : ∃ f0 f1 f2 f3 f4 : Field, Tryz.prog.underlying 51 = some (.struct #[f0, f1, f2, f3, f4]) ∧ f0.offset = 0 ∧ f1.offset = 1 ∧ f2.offset = 2 ∧ f3.offset = 3 ∧ f4.offset = 4 ∧ f0.type = 3 ∧ f1.type = 3 ∧ f2.type = 3 ∧ f3.type = 9 ∧ f4.type = 9 :=
  ⟨_, _, _, _, _, Tryz.underlying51, rfl, rfl, rfl, rfl, rfl, rfl, rfl, rfl, rfl, rfl⟩

theorem one_le {H : Type} (d : DataW H) : 1 ≤ Rows.uptoBulk d := by
  cases d with
  | lit l => cases l <;> simp [Rows.uptoBulk]
  | nil => simp [Rows.uptoBulk]
  | ptr d => simp [Rows.uptoBulk]
  | slice elems spare => simp [Rows.uptoBulk]
  | agg parts => simp [Rows.uptoBulk]
  | iface t d => simp [Rows.uptoBulk]
  | map entries => simp [Rows.uptoBulk]
  | held h => simp [Rows.uptoBulk]
theorem part_le {H : Type} {d : DataW H} {l : List (DataW H)} (h : d ∈ l) : Rows.uptoBulk d ≤ Rows.uptoBulkAll l := by
  induction l with
  | nil => cases h
  | cons x r ih =>
    simp only [Rows.uptoBulkAll]
    cases List.mem_cons.1 h with
    | inl e => subst e; omega
    | inr e => have := ih e; omega
theorem length_le {H : Type} (l : List (DataW H)) : l.length ≤ Rows.uptoBulkAll l := by
  induction l with
  | nil => simp [Rows.uptoBulkAll]
  | cons x r ih => have := one_le x; simp only [Rows.uptoBulkAll, List.length_cons]; omega

section
variable {H : Type} {enc : TypeId × Value → H} {W : World}

theorem five {α : Type} (l : List α) (h : l.length = 5) : ∃ a b c d e, l = [a, b, c, d, e] := by
  match l, h with
  | [a, b, c, d, e], _ => exact ⟨a, b, c, d, e, rfl⟩

/-- A step, out of its reading. -/
theorem open_step {fuel : Nat} {cs : List Value} {d : DataW H} {ps : List MemPlace} (h : DataW.trod enc Tryz.prog W 0 (fun _ => true) true fuel 51 cs = some (d, ps)) (hb : Rows.uptoBulk d ≤ 1048576) :
    ∃ (kind a b : Int) (s t : ByteArray), cs = [.int .i64 kind, .int .i64 a, .int .i64 b, .string s, .string t] ∧ s.size ≤ 1048576 ∧ t.size ≤ maxLen := by
  obtain ⟨f0, f1, f2, f3, f4, hu, o0, o1, o2, o3, o4, t0, t1, t2, t3, t4⟩ := step_fields
  obtain ⟨xs, n, _, hx, hl, hxl, hf⟩ := DataW.trod_struct hu h
  rw [cells46] at hl
  obtain ⟨c0, c1, c2, c3, c4, rfl⟩ := five cs hl
  obtain ⟨y0, y1, y2, y3, y4, rfl⟩ := five xs hxl
  have g0 := hf 0 f0 rfl
  have g1 := hf 1 f1 rfl
  have g2 := hf 2 f2 rfl
  have g3 := hf 3 f3 rfl
  have g4 := hf 4 f4 rfl
  simp only [o0, o1, o2, o3, o4, t0, t1, t2, t3, t4, cells3, cells9] at g0 g1 g2 g3 g4
  obtain ⟨k0, e0, _, _⟩ := DataW.trod_int (x := y0) Tryz.underlying3 g0
  obtain ⟨k1, e1, _, _⟩ := DataW.trod_int (x := y1) Tryz.underlying3 g1
  obtain ⟨k2, e2, _, _⟩ := DataW.trod_int (x := y2) Tryz.underlying3 g2
  obtain ⟨s, e3, hy3, hs⟩ := DataW.trod_string (x := y3) Tryz.underlying9 g3
  obtain ⟨t, e4, hy4, ht⟩ := DataW.trod_string (x := y4) Tryz.underlying9 g4
  simp at e0 e1 e2 e3 e4
  subst e0 e1 e2 e3 e4
  refine ⟨k0, k1, k2, s, t, rfl, ?_, ht⟩
  injection hx with hd _
  rw [hd] at hb
  have hm : y3.1 ∈ [y0, y1, y2, y3, y4].map (·.1) := by simp
  have h1 := part_le hm
  have h2 : Rows.uptoBulk (DataW.agg ([y0, y1, y2, y3, y4].map (·.1))) = Rows.uptoBulkAll ([y0, y1, y2, y3, y4].map (·.1)) + 1 := by rw [Rows.uptoBulk]
  have h3 : Rows.uptoBulk y3.1 = s.data.toList.length + 1 := by rw [hy3, Rows.uptoBulk]
  have h4 : s.data.toList.length = s.size := Array.length_toList
  omega

/-- A script, out of its reading. -/
theorem open_script {ad : Option Addr} {len cap fuel : Nat} {d : DataW H} {ps : List MemPlace} (h : DataW.trod enc Tryz.prog W 0 (fun _ => true) true fuel 22 [.slice ad len cap] = some (d, ps)) (hb : Rows.uptoBulk d ≤ 1048576) : Script W (.slice ad len cap) := by
  rcases Deep.open_slice Tryz.underlying22 h with ⟨hcs, _⟩ | ⟨a, len', cap', m, n, D, Pl, hcs, _, hl, hm, hmm, hx, hel⟩
  · injection hcs with e _
    injection e with e1 e2 e3
    subst e1 e2 e3
    exact ⟨0, 0, none, rfl, by omega, fun h0 => by omega⟩
  · injection hcs with e _
    injection e with e1 e2 e3
    subst e1 e2 e3
    injection hx with hd _
    have hle : len ≤ m := by rw [hmm]; split <;> omega
    have h2 : Rows.uptoBulkAll ((List.range len).map D) + 1 ≤ Rows.uptoBulk d := by rw [hd, Rows.uptoBulk]; omega
    have h3 := length_le ((List.range len).map D)
    rw [List.length_map, List.length_range] at h3
    refine ⟨len, cap, some a, rfl, by omega, fun h0 => ?_⟩
    have hstep : ∀ k, k < len → ∃ (kind x y : Int) (s t : ByteArray), Tryz.prog.cellsOf 51 = 5 ∧ W.cells? 0 (a.add (k * 5)) 5 = some [.int .i64 kind, .int .i64 x, .int .i64 y, .string s, .string t] ∧ s.size ≤ 1048576 ∧ t.size ≤ maxLen := by
      intro k hk
      obtain ⟨cs', hc1, hc2⟩ := hel k (by omega)
      rw [cells46] at hc1
      have h4 : Rows.uptoBulk (D k) ≤ 1048576 := by
        have := part_le (d := D k) (l := (List.range len).map D) (List.mem_map_of_mem (List.mem_range.2 hk))
        omega
      obtain ⟨kind, x, y, s, t, rfl, hs, ht⟩ := open_step hc2 h4
      exact ⟨kind, x, y, s, t, cells46, hc1, hs, ht⟩
    obtain ⟨g, off, spot⟩ := a
    have hspot : spot = none := by
      obtain ⟨_, _, _, _, _, _, hc, _⟩ := hstep 0 h0
      have := (World.cells?_some hc).2.2 0 (by omega)
      have h5 : W.cell? (((⟨g, off, spot⟩ : Addr).add (0 * 5)).add 0) = some _ := this
      rw [Deep.add_add] at h5
      simpa [Addr.add] using World.cell?_spot h5
    subst hspot
    refine ⟨g, off, rfl, fun k hk => ?_⟩
    obtain ⟨kind, x, y, s, t, _, hc, hs, ht⟩ := hstep k hk
    have hcell := (World.cells?_some hc).2.2
    have hat : ∀ i, i < 5 → W.cell? ⟨g, off + k * 5 + i, none⟩ = [Value.int .i64 kind, .int .i64 x, .int .i64 y, .string s, .string t][i]? := fun i hi => by
      have := hcell i hi
      rw [Deep.add_add, Addr.add_mid] at this
      rw [Nat.add_assoc]
      exact this
    exact ⟨kind, x, y, s, t, hat 0 (by omega), hat 1 (by omega), hat 2 (by omega), hat 3 (by omega), hat 4 (by omega), hs, ht⟩

end

theorem pow_of {W : World} (h : Lib.VarReads Tryz.prog W "internal/strconv.uint64pow10" Rows.laid_internal_strconv_uint64pow10) : Pow W := by
  obtain ⟨g, t, cs, fuel, p, h1, h2, h3, h4⟩ := h
  rw [pow_eq] at h4
  obtain rfl := Option.some.inj ((show Tryz.prog.globalNamed "internal/strconv.uint64pow10" = some 3 by kernel_rfl).symm.trans h1)
  obtain rfl := Option.some.inj ((show (Tryz.prog.globals[3]?).map (·.type) = some 201 by kernel_rfl).symm.trans h2)
  have := Lib.cells_of_tab Tryz.underlying201 Tryz.underlying142 (by kernel_rfl) (by kernel_rfl) h4
  show W.var? Tryz.prog "internal/strconv.uint64pow10" = _
  rw [h3, ← this]

theorem sentinel_of {W : World} {n s : String} {d : DataW Unit} {g : Nat} {ms : _} (h : Lib.VarReads Tryz.prog W n (.iface s d)) (hg : Tryz.prog.globalNamed n = some g) (hty : (Tryz.prog.globals[g]?).map (·.type) = some 99) (hu : Tryz.prog.underlying 99 = some (.interface ms)) :
    ∃ ev, W.cell? ⟨g, 0, none⟩ = some ev ∧ (ev = .nilIface ∨ ∃ te pe, ev = .iface te pe) := by
  obtain ⟨g', t, cs, fuel, p, h1, h2, h3, h4⟩ := h
  obtain rfl := Option.some.inj (hg.symm.trans h1)
  obtain rfl := Option.some.inj (hty.symm.trans h2)
  have hc := World.var?_cell hg h3 0
  cases fuel with
  | zero => simp [DataW.trod] at h4
  | succ fuel =>
    obtain ⟨l⟩ := cs
    change DataW.trod _ _ _ _ _ _ _ _ l = _ at h4
    unfold DataW.trod at h4
    rw [hu] at h4
    split at h4
    all_goals first
      | exact ⟨_, by simpa using hc, Or.inl rfl⟩
      | exact ⟨_, by simpa using hc, Or.inr ⟨_, _, rfl⟩⟩
      | (rename_i e; cases e)
      | (rename_i e _; cases e)
      | cases h4

/-- What the rows list. -/
theorem std_of {W : World} (h : laidMet Tryz.prog Rows.ranksUptoRow.laid W) : Std W := by
  have hp := Lib.laidMet.reads h (.tail _ (.tail _ (.head _)))
  have h1 := Lib.laidMet.reads h (.tail _ (.tail _ (.tail _ (.head _))))
  have hr := Lib.laidMet.reads h (.tail _ (.tail _ (.tail _ (.tail _ (.head _)))))
  have hs := Lib.laidMet.reads h (.tail _ (.tail _ (.tail _ (.tail _ (.tail _ (.head _))))))
  have h2 := Lib.laidMet.reads h (.tail _ (.tail _ (.tail _ (.tail _ (.tail _ (.tail _ (.head _)))))))
  rw [accept_eq] at h1
  rw [first_eq] at h2
  have e4 := sentinel_of (g := 4) hs (by kernel_rfl) (by kernel_rfl) Tryz.underlying99
  have e5 := sentinel_of (g := 5) hr (by kernel_rfl) (by kernel_rfl) Tryz.underlying99
  refine ⟨utf8Tabs_of_readsT (U8Types.of196 Tryz.laysValid) ⟨by kernel_rfl, by kernel_rfl, by kernel_rfl, by kernel_rfl, by kernel_rfl, by kernel_rfl, by kernel_rfl⟩ h2 h1, pow_of hp, ⟨e4, e5⟩, ?_⟩
  obtain ⟨ev, hev, _⟩ := e5
  exact lt_of_cell hev

/-- The variables hold what their initialisers lay. -/
def putTab (h : Array Obj) (g : Nat) (cs : Array Value) : Array Obj := h.modify g fun
  | .cells _ t frozen => .cells cs t frozen
  | o => o
def dataCells : DataW Unit → Array Value
  | .agg l => (l.filterMap fun
    | .lit (.int k z) => some (Value.int k z)
    | _ => none).toArray
  | _ => #[]
def putAll (h : Array Obj) : Array Obj :=
  let h1 := putTab (putTab h 0 (Lib.firstTab.map fun z => Value.int .u8 z).toArray) 1 ((List.range 16).flatMap fun i => [Value.int .u8 (Lib.accLo i), Value.int .u8 (Lib.accHi i)]).toArray
  let h2 := putTab (putTab (putTab h1 3 (dataCells Rows.laid_internal_strconv_uint64pow10)) 6 (dataCells Rows.laid_math_bits_deBruijn32tab)) 7 (dataCells Rows.laid_math_bits_deBruijn64tab)
  let h3 := putTab (putTab h2 4 #[.iface 225 (.pointer (some ⟨h.size, 0, none⟩))]) 5 #[.iface 225 (.pointer (some ⟨h.size + 1, 0, none⟩))]
  (h3.push (.cells #[.string ⟨#[105, 110, 118, 97, 108, 105, 100, 32, 115, 121, 110, 116, 97, 120]⟩] 227)).push (.cells #[.string ⟨#[118, 97, 108, 117, 101, 32, 111, 117, 116, 32, 111, 102, 32, 114, 97, 110, 103, 101]⟩] 227)
theorem laid_met (os : Os) (args : Array Value) : laidMet Tryz.prog Rows.ranksUptoRow.laid (({ World.holding Tryz.prog os ⟨#[], #[], []⟩ with heap := putAll (World.holding Tryz.prog os ⟨#[], #[], []⟩).heap } : World).forCall (fun _ _ => 0) ⟨#[], args, []⟩).memory :=
  (LaidIn.of_run (l := Rows.ranksUptoRow.laid) (List.range 64) 8 (by kernel_rfl) (by kernel_rfl) (by kernel_rfl) (by kernel_rfl)).met

end Go.Proofs.YtdfnngehhiociaaGreatDoor
