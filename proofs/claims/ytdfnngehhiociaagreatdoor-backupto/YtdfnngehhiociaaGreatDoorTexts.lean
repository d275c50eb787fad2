import Derived.Test.YtdfnngehhiociaaGreatDoorGra
import Derived.Test.YtdfnngehhiociaaGreatDoorAsk
namespace Go.Proofs.YtdfnngehhiociaaGreatDoor
open Go.RowKit
open Go.Proofs (encStr)

set_option maxHeartbeats 1000000 in
set_option maxRecDepth 100000 in
theorem check_used (b : Nat) (w : World) (h0 : w.cell? ⟨b, 0, none⟩ = some (.pointer (some ⟨b, 0, none⟩))) :
    Calls Tryz.prog 81 #[.pointer (some ⟨b, 0, none⟩)] w fun e w' => e = .returned (.tuple #[]) ∧ w' = w := by
  obtain ⟨j, hj, _⟩ := Option.map_eq_some_iff.1 Tryz.Builder_Extra_169.sizeBuilder
  go_enter Tryz.func81, Tryz.ntmps81
  go_wp2
  rw [Lib.run_neq_ptr_same w _ Tryz.underlying94 hj]
  go_wp2
  go_end0
  exact ⟨rfl, rfl⟩

set_option maxHeartbeats 1000000 in
set_option maxRecDepth 100000 in
theorem check_fresh (b : Nat) (w : World) (h0 : w.cell? ⟨b, 0, none⟩ = some (.pointer none)) (hsh : w.shape? b = some (97, 2)) (hfz : w.frozen? ⟨b, 0, none⟩ = false) :
    Calls Tryz.prog 81 #[.pointer (some ⟨b, 0, none⟩)] w fun e w' => e = .returned (.tuple #[]) ∧ w' = w.setCell ⟨b, 0, none⟩ (.pointer (some ⟨b, 0, none⟩)) := by
  obtain ⟨j, hj, hjs⟩ := Option.map_eq_some_iff.1 Tryz.Builder_Extra_169.sizeBuilder
  go_enter Tryz.func81, Tryz.ntmps81
  go_wp2
  rw [Lib.run_to_unsafe w ⟨b, 0, none⟩ Tryz.underlying94 Tryz.underlying157 hj (by rw [hjs]; decide) hsh (Nat.zero_lt_succ 1)]
  simp only [Result.andThen]
  rw [Oper.upon_value]
  go_wp2
  rw [run_callFunc_extern Tryz.func107 (by kernel_rfl) (by kernel_rfl) (by kernel_rfl) (e := Extern.AbiNoEscape.same) (by kernel_rfl)]
  rw [Lib.run_noEscape]
  simp only [Result.andThen]
  rw [Oper.upon_value]
  go_wp2
  rw [Lib.run_from_unsafe w ⟨b, 0, none⟩ Tryz.underlying157 Tryz.underlying94 hj hsh Tryz.Builder_Extra_169.liesBuilder]
  simp only [Result.andThen]
  rw [Oper.upon_value]
  go_wp2
  go_end0
  exact ⟨rfl, rfl⟩

theorem check_any (B b : Nat) (bs : List Value) (w : World) (h : Lib.IsBuilder 97 5 B b bs w) :
    Calls Tryz.prog 81 #[.pointer (some ⟨b, 0, none⟩)] w fun e w' => e = .returned (.tuple #[]) ∧ (Lib.BuilderAt 97 5 B b (.pointer (some ⟨b, 0, none⟩)) bs w' ∧ Below B w w') := by
  rcases h with h | h
  · refine (check_fresh b w h.cell0 h.shape h.frozen0).mono ?_
    rintro e w' ⟨rfl, rfl⟩
    exact ⟨rfl, h.used _, (Below.refl B w).setCell (p := ⟨b, 0, none⟩) h.1 _⟩
  · refine (check_used b w h.cell0).mono ?_
    rintro e w' ⟨rfl, rfl⟩
    exact ⟨rfl, h, Below.refl B _⟩

set_option maxHeartbeats 2000000 in
set_option maxRecDepth 100000 in
theorem write_any (B b : Nat) (bs : List Value) (s : ByteArray) (w : World) (h : Lib.IsBuilder 97 5 B b bs w) (hlen : bs.length + s.size ≤ 10000000) (hBw : B ≤ w.heap.size) :
    Calls Tryz.prog 59 #[.pointer (some ⟨b, 0, none⟩), .string s] w fun e w' => e = .returned (.tuple #[.int .i64 s.size, .nilIface]) ∧ (Lib.BuilderAt 97 5 B b (.pointer (some ⟨b, 0, none⟩)) (bs ++ Lib.strCells s) w' ∧ Below B w w') := by
  obtain ⟨i0, hi, hz0, hz1, hz2⟩ := info_parts Tryz.Builder_Extra_169.infoByte
  have HC := hide (check_any B b bs w h)
  go_enter Tryz.func59, Tryz.ntmps59
  go_wp2_with fail
  refine (unhide HC).mono ?_
  rintro e w1 ⟨rfl, h1, hb1⟩
  obtain ⟨hB, v, hbk, hown, hne⟩ := h1
  have c0 : w1.cell? ⟨b, 0, none⟩ = some (.pointer (some ⟨b, 0, none⟩)) := by rw [Lib.cell_of_heap hbk]; rfl
  have c1 : w1.cell? ⟨b, 1, none⟩ = some v := by rw [Lib.cell_of_heap hbk]; rfl
  go_wp2_with (at_builtin; refine Lib.wpList_append_own_string _ rfl _ _ 95 9 rfl B 5 i0 Tryz.underlying95 Tryz.underlying9 hi hz0 hz1 hz2 _ _ _ rfl hown s rfl ?c3 ?c4 ?c5 ?_)
  case c3 => unfold maxLen; omega
  case c4 => omega
  case c5 => have := hb1.size; omega
  intro v' w2 hown' hgrow _
  have hlt : b < w1.heap.size := (Array.getElem?_eq_some_iff.1 hbk).1
  have hb2 : w2.heap[b]? = some (.cells #[.pointer (some ⟨b, 0, none⟩), v] 97 (0, 0)) := by
    rw [hgrow.block b hlt (fun e => hne e.symm)]
    exact hbk
  have d0 : w2.cell? ⟨b, 0, none⟩ = some (.pointer (some ⟨b, 0, none⟩)) := by rw [Lib.cell_of_heap hb2]; rfl
  have d1 : w2.cell? ⟨b, 1, none⟩ = some v := by rw [Lib.cell_of_heap hb2]; rfl
  have f1 : w2.frozen? ⟨b, 1, none⟩ = false := Lib.frozen_of_heap hb2 1
  obtain ⟨ao, n', cap, rfl⟩ : ∃ ao n' cap, v' = .slice ao n' cap := by
    rcases hown'.2 with ⟨hv, _⟩ | ⟨g, cap, cur, hv, _⟩
    · exact ⟨_, _, _, hv⟩
    · exact ⟨_, _, _, hv⟩
  go_wp2
  go_ret2
  refine ⟨rfl, ?_, ?_⟩
  · exact Lib.BuilderAt.put (T := 97) (e := 5) hB hb2 (bs' := bs ++ Lib.strCells s) (by simpa [Lib.strCells_length] using hown') Tryz.Builder_Extra_169.neB5
  · exact (hb1.grown hgrow (by have := hb1.size; omega) (fun k hk => (hown.lt k hk).1)).setCell (p := ⟨b, 1, none⟩) hB _

end Go.Proofs.YtdfnngehhiociaaGreatDoor

namespace Go.Proofs.YtdfnngehhiociaaGreatDoor
open Go.RowKit
open Go.Proofs (encStr)

/-- The powers of ten lie there. -/
def Pow (w : World) : Prop := Lib.TabIs Tryz.prog w "internal/strconv.uint64pow10" .u64 Lib.pow10Tab

theorem Pow.below {w w' : World} (h : Pow w) (hb : Below w.heap.size w w') : Pow w' := by
  have hv : w.var? Tryz.prog "internal/strconv.uint64pow10" = _ := h
  show w'.var? Tryz.prog "internal/strconv.uint64pow10" = _
  rw [← hv]
  have hg : Tryz.prog.globalNamed "internal/strconv.uint64pow10" = some 3 := by kernel_rfl
  unfold World.var? at hv ⊢
  rw [hg] at hv ⊢
  have hlt : 3 < w.heap.size := by
    rcases Nat.lt_or_ge 3 w.heap.size with h' | h'
    · exact h'
    · simp [Array.getElem?_eq_none h'] at hv
  rw [Option.bind_some, Option.bind_some, hb.block 3 hlt]

theorem Pow.later {w w' : World} (h : Pow w) (hg : w.grownBy w' none) : Pow w' := h.below (grownBy_below hg)

theorem grow_grown (w : World) (k : Nat) (os : Array Obj) : w.grownBy (Go.Sort.grow (w.drewN k) os) none := by
  refine ⟨rfl, rfl, rfl, ?_, fun j hj _ => ?_⟩
  · simp [Go.Sort.grow]
  · simp [Go.Sort.grow, Array.getElem?_append, hj]

theorem itoa_any (n : Nat) (hn : n < 1000000) (w : World) (h : Pow w) : Calls Tryz.prog 60 #[.int .i64 (n : Nat)] w fun e w' => e = .returned (encStr (Lib.itoa n)) ∧ w.grownBy w' none := by
  refine (Tryz.strconv_Itoa n (by omega) (by omega) w h).mono ?_
  rintro e w' ⟨rfl, k, os, rfl⟩
  exact ⟨rfl, grow_grown _ _ _⟩

theorem flat_two : ∀ (A : List (Int × Nat)) (k : Nat), k < A.length → (A.flatMap encA)[2 * k]? = some (.int .i32 (A.getD k (0, 0)).1) ∧ (A.flatMap encA)[2 * k + 1]? = some (.int .i64 ((A.getD k (0, 0)).2 : Nat))
  | q :: A, 0, _ => by simp [encA, List.getD]
  | q :: A, k + 1, h => by
    obtain ⟨h1, h2⟩ := flat_two A k (by simpa using h)
    have e : ∀ j, ((q :: A).flatMap encA)[j + 2]? = (A.flatMap encA)[j]? := fun j => by simp [encA]
    refine ⟨?_, ?_⟩
    · rw [show 2 * (k + 1) = 2 * k + 2 from by omega, e, h1]; simp [List.getD]
    · rw [show 2 * (k + 1) + 1 = (2 * k + 1) + 2 from by omega, e, h2]; simp [List.getD]

theorem arr_cells {w : World} {A : List (Int × Nat)} {g cap : Nat} (h : Arr 0 w (.slice (some ⟨g, 0, none⟩) A.length cap) A) {k : Nat} (hk : k < A.length) :
    w.cell? ⟨g, k * 2, none⟩ = some (.int .i32 (A.getD k (0, 0)).1) ∧ w.cell? ⟨g, k * 2 + 1, none⟩ = some (.int .i64 ((A.getD k (0, 0)).2 : Nat)) := by
  obtain ⟨h1, h2⟩ := flat_two A k hk
  rw [Nat.mul_comm 2 k] at h1 h2
  exact ⟨(World.ownsRow.cellAt h _ (by omega)).trans h1, (World.ownsRow.cellAt h _ (by omega)).trans h2⟩

theorem encode_model {r : Int} (h : RuneOk r) : Utf8.encode r = ⟨(Lib.encodeRune r).toArray⟩ := by
  obtain ⟨h0, hs, h1⟩ := h
  have hv : Utf8.valid r = true := by
    unfold Utf8.valid
    simp
    omega
  obtain ⟨n, rfl⟩ : ∃ n : Nat, r = n := ⟨r.toNat, by omega⟩
  unfold Utf8.encode Lib.encodeRune
  simp only [hv, if_true, Int.toNat_natCast]
  by_cases c1 : n < 128
  · rw [if_pos c1, Lib.encodeRuneZ_one (by omega) (by omega)]
    rfl
  · by_cases c2 : n < 2048
    · rw [if_neg c1, if_pos c2, Lib.encodeRuneZ_two (by omega) (by omega)]
      have e1 : (192 + (n : Int) / 64).toNat = 192 + n / 64 := by omega
      have e2 : (128 + (n : Int) % 64).toNat = 128 + n % 64 := by omega
      simp only [List.map_cons, List.map_nil, e1, e2]
    · by_cases c3 : n < 65536
      · rw [if_neg c1, if_neg c2, if_pos c3, Lib.encodeRuneZ_three (by omega)]
        have e1 : (224 + (n : Int) / 4096).toNat = 224 + n / 4096 := by omega
        have e2 : (128 + (n : Int) / 64 % 64).toNat = 128 + n / 64 % 64 := by omega
        have e3 : (128 + (n : Int) % 64).toNat = 128 + n % 64 := by omega
        simp only [List.map_cons, List.map_nil, e1, e2, e3]
      · rw [if_neg c1, if_neg c2, if_neg c3, Lib.encodeRuneZ_four (by omega) (by omega)]
        have e0 : (240 + (n : Int) / 262144).toNat = 240 + n / 262144 := by omega
        have e1 : (128 + (n : Int) / 4096 % 64).toNat = 128 + n / 4096 % 64 := by omega
        have e2 : (128 + (n : Int) / 64 % 64).toNat = 128 + n / 64 % 64 := by omega
        have e3 : (128 + (n : Int) % 64).toNat = 128 + n % 64 := by omega
        simp only [List.map_cons, List.map_nil, e0, e1, e2, e3]

theorem itoa_len {c : Nat} (h : c < 1000) : (Lib.itoa (c : Int)).length ≤ 21 := by
  rw [itoa_dec, Lib.decDigits_length]
  by_cases h1 : c < 10
  · rw [Lib.nDigits_small h1]; omega
  · rw [Lib.nDigits_big h1]
    by_cases h2 : c / 10 < 10
    · rw [Lib.nDigits_small h2]; omega
    · rw [Lib.nDigits_big h2, Lib.nDigits_small (by omega)]
      omega

theorem arrows_len : ∀ {A : List (Int × Nat)}, (∀ q ∈ A, q.2 < 1000) → (A.flatMap arrowT).length ≤ 26 * A.length
  | [], _ => by simp
  | q :: A, h => by
    have h1 := arrows_len fun x hx => h x (List.mem_cons_of_mem q hx)
    have h2 := itoa_len (h q (List.mem_cons_self ..))
    have h3 := (encode_len q.1).2
    have h4 : (arrowT q).length = 1 + ((Lib.encodeRune q.1).length + (Lib.itoa (q.2 : Int)).length) := by
      unfold arrowT
      rw [List.length_cons, List.length_append]
      omega
    rw [List.flatMap_cons, List.length_append, List.length_cons]
    omega

/-- The beginning of a line. -/
def lineP (m : UInt8) (A : List (Int × Nat)) (k : Nat) : Bs := m :: (A.take k).flatMap arrowT

set_option maxHeartbeats 1000000 in
set_option maxRecDepth 100000 in
theorem line_any (b : Bool) (va : Value) (A : List (Int × Nat)) (w : World) (hA : Arr 0 w va A) (hP : Pow w) (hR : ∀ q ∈ A, RuneOk q.1 ∧ q.2 < 1000) (hl : A.length ≤ 40) :
    Calls Tryz.prog 61 #[.agg #[.bool b, va]] w fun e w' => e = .returned (encStr (lineT (b, A))) ∧ w.grownBy w' none := by
  obtain ⟨ad0, cap, rfl, had0⟩ : ∃ ad0 cap, va = .slice ad0 A.length cap ∧ (0 < A.length → ∃ g, ad0 = some ⟨g, 0, none⟩) := by
    rcases hA.2 with ⟨rfl, h0⟩ | ⟨g, cap, cur, rfl, _⟩
    · exact ⟨none, 0, by rw [h0], fun h => by omega⟩
    · exact ⟨_, _, rfl, fun _ => ⟨g, rfl⟩⟩
  have HA := hide hA
  have HP := hide hP
  have HR := hide hR
  clear hA hP hR
  obtain ⟨m, hm⟩ : ∃ m : UInt8, Hid (m = if b then 33 else 46) := ⟨_, rfl⟩
  go_enter Tryz.func61, Tryz.ntmps61
  cases b
  all_goals
    go_wp2
  all_goals
    go_loopw [3, 11] (fun s i wr => ∃ k : Nat, k ≤ A.length ∧ i = .int .i64 k ∧ s = encStr (lineP m A k) ∧ Hid (w.grownBy wr none)) (fun _ i _ => A.length - (intOf i).toNat)
    case atStart => exact ⟨0, Nat.zero_le _, rfl, by rw [unhide hm]; rfl, grownBy_none_alloc _ _⟩
    case round =>
      obtain ⟨k, hk, rfl, rfl, Hg⟩ := hrel
      by_cases hlt : k < A.length
      · obtain ⟨g, rfl⟩ := had0 (by omega)
        obtain ⟨c0, c1⟩ := arr_cells (unhide HA) hlt
        have d0 := (unhide Hg).cell c0 (by simp)
        have d1 := (unhide Hg).cell c1 (by simp)
        have hmem : A.getD k (0, 0) ∈ A := by simp [List.getD, hlt]
        have hq := unhide HR _ hmem
        have htk := take_snoc A k (0, 0) hlt
        generalize A.getD k (0, 0) = q at d0 d1 hq htk
        obtain ⟨r, c⟩ := q
        simp only at d0 d1 hq
        have hlp : (lineP m A k).length ≤ 1041 := by
          have h1 := arrows_len (A := A.take k) fun x hx => (unhide HR x (List.mem_of_mem_take hx)).2
          rw [List.length_take] at h1
          unfold lineP
          rw [List.length_cons]
          omega
        have henc := encode_model hq.1
        have hel := encode_len r
        have hil := itoa_len hq.2
        have HTK := hide htk
        have HENC := hide henc
        have hes : (Utf8.encode r).size = (Lib.encodeRune r).length := by rw [henc]; exact List.size_toArray
        have s1 : ¬ 9223372036854775807 < 1 + (Utf8.encode r).size := by omega
        have s2 : ¬ 9223372036854775807 < 1 + (Utf8.encode r).size + (Lib.itoa (c : Int)).length := by omega
        have s3 : ¬ 9223372036854775807 < (lineP m A k).length + (1 + (Utf8.encode r).size + (Lib.itoa (c : Int)).length) := by omega
        clear hes
        clear c0 c1 htk hmem henc
        have HI := hide (itoa_any c (by omega) (wr.alloc (.cells #[.int .i32 r, .int .i64 (c : Nat)] 134)).drew (((unhide HP).later (unhide Hg)).later (gnone (grownBy_none_alloc _ _) (grownBy_drew (grownBy_refl _ _)))))
        have HX0 : Hid ((wr.alloc (.cells #[.int .i32 r, .int .i64 (c : Nat)] 134)).drew.cell? ⟨wr.heap.size, 0, none⟩ = some (.int .i32 r)) := by
          show (wr.alloc (.cells #[.int .i32 r, .int .i64 (c : Nat)] 134)).cell? ⟨wr.heap.size, 0, none⟩ = some (.int .i32 r)
          rw [cell_of_row _ _ _ _ _ (0, 0) (Go.heap_alloc_new wr _)]
          rfl
        go_wp2
        go_region_law (go_simp; go_at_call 60; refine (unhide HI).mono ?_; rintro e w5 ⟨rfl, hg5⟩; have h50 := hg5.cell (unhide HX0) (by simp); have Hg5 := hide hg5; clear hg5)
        all_goals
          go_wp2
          go_roundw
          case rel =>
            refine ⟨k + 1, by omega, by go_num, ?_, gnone (gnone (unhide Hg) (gnone (grownBy_none_alloc _ _) (grownBy_drew (grownBy_refl _ _)))) (unhide Hg5)⟩
            refine congrArg Value.string ?_
            rw [unhide HENC]
            apply ByteArray.ext
            simp [lineP, unhide HTK, arrowT]
          case measure => simp [intOf]; omega
      · obtain rfl : k = A.length := by omega
        have hlp : (lineP m A A.length).length ≤ 1041 := by
          have h1 := arrows_len (A := A) fun x hx => (unhide HR x hx).2
          unfold lineP
          rw [List.length_cons, List.take_length]
          omega
        have s1 : ¬ 9223372036854775807 < (lineP m A A.length).length + 1 := by omega
        go_wp2
        go_ret
        refine ⟨congrArg Ending.returned (congrArg Value.string ?_), unhide Hg⟩
        apply ByteArray.ext
        simp [lineP, lineT, unhide hm]

end Go.Proofs.YtdfnngehhiociaaGreatDoor

namespace Go.Proofs.YtdfnngehhiociaaGreatDoor
open Go.RowKit
open Go.Proofs (encStr)

theorem IsGraph.below {w w' : World} {v : Value} {g : List St} (h : IsGraph 0 w v g) (hb : Below w.heap.size w w') : IsGraph 0 w' v g := h.later (below_grownBy hb _)

/-- The cells of a state. -/
theorem graph_cells {w : World} {g : List St} {gb cap : Nat} (h : IsGraph 0 w (.slice (some ⟨gb, 0, none⟩) g.length cap) g) {k : Nat} (hk : k < g.length) :
    ∃ va, w.cell? ⟨gb, k * 2, none⟩ = some (.bool (g.getD k (false, [])).1) ∧ w.cell? ⟨gb, k * 2 + 1, none⟩ = some va ∧ Arr 0 w va (g.getD k (false, [])).2 := by
  obtain ⟨vs, h1, h2, h3⟩ := h.row
  obtain ⟨u, hu, hA⟩ := h3 k hk
  have key : ∀ (g : List St) (vs : List Value) (k : Nat), vs.length = g.length → k < g.length → (cellsG g vs)[k * 2]? = some (.bool (g.getD k (false, [])).1) ∧ (cellsG g vs)[k * 2 + 1]? = vs[k]? := by
    intro g
    induction g with
    | nil => intro vs k _ hk; simp at hk
    | cons s g ih =>
      intro vs k hl hk
      cases vs with
      | nil => simp at hl
      | cons v vs =>
        have e : ∀ j, (cellsG (s :: g) (v :: vs))[j + 2]? = (cellsG g vs)[j]? := fun j => by simp [cellsG]
        cases k with
        | zero => simp [cellsG, List.getD]
        | succ k =>
          obtain ⟨i1, i2⟩ := ih vs k (by simpa using hl) (by simpa using hk)
          refine ⟨?_, ?_⟩
          · rw [show (k + 1) * 2 = k * 2 + 2 from by omega, e, i1]; simp [List.getD]
          · rw [show (k + 1) * 2 + 1 = (k * 2 + 1) + 2 from by omega, e, i2]; simp
  obtain ⟨k1, k2⟩ := key g vs k h1 hk
  exact ⟨u, (World.ownsRow.cellAt h2 _ (by omega)).trans k1, ((World.ownsRow.cellAt h2 _ (by omega)).trans k2).trans hu, hA⟩

/-- What may be written. -/
structure Small (g : List St) : Prop where
  len : g.length < 1000
  arrows : ∀ s ∈ g, s.2.length ≤ 40 ∧ ∀ q ∈ s.2, RuneOk q.1 ∧ q.2 < 1000

def headP (g : List St) (k : Nat) : Bs := [103, 108, 111, 115, 115, 32] ++ Lib.itoa g.length ++ [10] ++ (g.take k).flatMap lineT

theorem line_len {s : St} (h : s.2.length ≤ 40 ∧ ∀ q ∈ s.2, RuneOk q.1 ∧ q.2 < 1000) : (lineT s).length ≤ 1042 := by
  have := arrows_len (A := s.2) fun q hq => (h.2 q hq).2
  unfold lineT
  rw [List.length_cons, List.length_append, List.length_singleton]
  omega

theorem lines_len : ∀ {g : List St}, (∀ s ∈ g, s.2.length ≤ 40 ∧ ∀ q ∈ s.2, RuneOk q.1 ∧ q.2 < 1000) → (g.flatMap lineT).length ≤ 1042 * g.length
  | [], _ => by simp
  | s :: g, h => by
    have h1 := lines_len fun x hx => h x (List.mem_cons_of_mem s hx)
    have h2 := line_len (h s (List.mem_cons_self ..))
    rw [List.flatMap_cons, List.length_append, List.length_cons]
    omega

theorem head_len {g : List St} (h : Small g) (k : Nat) : (headP g k).length ≤ 1100000 := by
  have h1 := lines_len (g := g.take k) fun s hs => h.arrows s (List.mem_of_mem_take hs)
  have h2 := itoa_len h.len
  have h3 := h.len
  rw [List.length_take] at h1
  unfold headP
  simp only [List.length_append, List.length_cons, List.length_nil]
  omega

theorem str_bytes (l : Bs) : Lib.strCells ⟨l.toArray⟩ = Lib.byteCells l := by
  simp [Lib.strCells, Lib.byteCells]

set_option maxHeartbeats 1000000 in
set_option maxRecDepth 100000 in
theorem text_any (v : Value) (g : List St) (w : World) (hG : IsGraph 0 w v g) (hP : Pow w) (hS : Small g) :
    Calls Tryz.prog 34 #[v] w fun e w' => e = .returned (encStr (textT g)) ∧ w.grownBy w' none := by
  obtain ⟨ad0, cap, rfl, had0⟩ : ∃ ad0 cap, v = .slice ad0 g.length cap ∧ (0 < g.length → ∃ b, ad0 = some ⟨b, 0, none⟩) := by
    obtain ⟨vs, _, hr, _⟩ := hG.row
    rcases hr.2 with ⟨rfl, h0⟩ | ⟨b, cap, cur, rfl, _⟩
    · exact ⟨none, 0, by rw [h0], fun h => by omega⟩
    · exact ⟨_, _, rfl, fun _ => ⟨b, rfl⟩⟩
  have HG := hide hG
  have HP := hide hP
  have HS := hide hS
  have hl := hS.len
  have hil := itoa_len hl
  have HI := hide (itoa_any g.length (by omega) (w.alloc (.cells #[.pointer none, .slice none 0 0] 97)) (hP.later (grownBy_none_alloc _ _)))
  clear hG hP hS
  go_enter Tryz.func34, Tryz.ntmps34
  go_wp2_with fail
  refine (unhide HI).mono ?_
  rintro e w1 ⟨rfl, hg1⟩
  have hb1 : Lib.IsBuilder 97 5 w.heap.size w.heap.size [] w1 := Or.inl ⟨Nat.le_refl _, .slice none 0 0, (hg1.block _ (by simp) (by simp)).trans (World.alloc_heap_new w _), World.ownsRow_nil _ _ _ _, by simp [Value.ownBlock]⟩
  have hB1 : Below w.heap.size w w1 := grownBy_below (gnone (grownBy_none_alloc _ _) hg1)
  have s1 : ¬ 9223372036854775807 < 6 + (Lib.itoa (g.length : Int)).length := by omega
  have s2 : ¬ 9223372036854775807 < 6 + (Lib.itoa (g.length : Int)).length + 1 := by omega
  have HB1 := hide hB1
  have Hb1 := hide hb1
  clear hg1 hb1 hB1 HI
  go_wp2_with fail
  refine (write_any w.heap.size w.heap.size [] _ w1 (unhide Hb1) ?hsz (unhide HB1).size).mono ?_
  case hsz =>
    have hz : ∀ l : Array UInt8, (⟨l⟩ : ByteArray).size = l.size := fun _ => rfl
    simp [hz]
    omega
  rintro e w2 ⟨rfl, hb2, hB2⟩
  have H2 : Hid (Lib.BuilderAt 97 5 w.heap.size w.heap.size (.pointer (some ⟨w.heap.size, 0, none⟩)) (Lib.byteCells (headP g 0)) w2 ∧ Below w.heap.size w w2) := by
    refine ⟨?_, (unhide HB1).trans hB2⟩
    have e : Lib.byteCells (headP g 0) = [] ++ Lib.strCells (({ data := #[103, 108, 111, 115, 115, 32] } : ByteArray) ++ ⟨(Lib.itoa (g.length : Int)).toArray⟩ ++ { data := #[10] }) := by
      rw [List.nil_append, ← str_bytes]
      congr 1
      apply ByteArray.ext
      simp [headP]
    rw [e]
    exact hb2
  clear hb2 hB2 HB1 Hb1 s1 s2 hil
  go_wp2_with fail
  go_loopw [14] (fun i wr => ∃ k : Nat, k ≤ g.length ∧ i = .int .i64 k ∧ Hid (Lib.BuilderAt 97 5 w.heap.size w.heap.size (.pointer (some ⟨w.heap.size, 0, none⟩)) (Lib.byteCells (headP g k)) wr ∧ Below w.heap.size w wr)) (fun i _ => g.length - (intOf i).toNat)
  case atStart => exact ⟨0, Nat.zero_le _, rfl, H2⟩
  case round =>
    clear H2
    obtain ⟨k, hk, rfl, HX⟩ := hrel
    by_cases hlt : k < g.length
    · obtain ⟨gb, rfl⟩ := had0 (by omega)
      obtain ⟨va, c0, c1, hA⟩ := graph_cells ((unhide HG).below (unhide HX).2) hlt
      have hmem : g.getD k (false, []) ∈ g := by simp [List.getD, hlt]
      have hq := (unhide HS).arrows _ hmem
      have htk := take_snoc g k (false, []) hlt
      generalize g.getD k (false, []) = st at c0 hA hq htk
      obtain ⟨b, A⟩ := st
      simp only at c0 hA hq
      have hPr : Pow wr := (unhide HP).below (unhide HX).2
      have HL := hide (line_any b va A (wr.alloc (.cells #[.bool b, va] 92)) (row_off hA (grownBy_none_alloc _ _) (by cases va.ownBlock <;> simp)) (hPr.later (grownBy_none_alloc _ _)) hq.2 hq.1)
      have hll := line_len (s := (b, A)) hq
      have hhl := head_len (unhide HS) k
      have HTK := hide htk
      obtain ⟨vad, vn, vc, rfl⟩ : ∃ vad vn vc, va = .slice vad vn vc := by
        rcases hA.2 with ⟨h, _⟩ | ⟨q, qc, cur, h, _⟩
        · exact ⟨_, _, _, h⟩
        · exact ⟨_, _, _, h⟩
      clear hmem htk hA hPr
      go_wp2_with fail
      refine (unhide HL).mono ?_
      rintro e w3 ⟨rfl, hg3⟩
      have hg3' : wr.grownBy w3 none := gnone (grownBy_none_alloc _ _) hg3
      have hB3 : Below w.heap.size w w3 := (unhide HX).2.trans ((grownBy_below hg3').mono (unhide HX).2.size)
      have hb3 : Lib.IsBuilder 97 5 w.heap.size w.heap.size (Lib.byteCells (headP g k)) w3 := by
        obtain ⟨h1, v, h2, h3, h4⟩ := (unhide HX).1
        exact Or.inr ⟨h1, v, (hg3'.block _ (Array.getElem?_eq_some_iff.1 h2).1 (by simp)).trans h2, row_off h3 hg3' (by cases v.ownBlock <;> simp), h4⟩
      have Hb3 := hide hb3
      have HB3 := hide hB3
      clear hg3 hg3' hb3 hB3 HL HX
      go_wp2_with fail
      refine (write_any w.heap.size w.heap.size (Lib.byteCells (headP g k)) _ w3 (unhide Hb3) ?hsz (unhide HB3).size).mono ?_
      case hsz =>
        have hz : ∀ l : Array UInt8, (⟨l⟩ : ByteArray).size = l.size := fun _ => rfl
        simp [Lib.byteCells, hz]
        omega
      rintro e w4 ⟨rfl, hb4, hB4⟩
      have H4 : Hid (Lib.BuilderAt 97 5 w.heap.size w.heap.size (.pointer (some ⟨w.heap.size, 0, none⟩)) (Lib.byteCells (headP g (k + 1))) w4 ∧ Below w.heap.size w w4) := by
        refine ⟨?_, (unhide HB3).trans hB4⟩
        have e : Lib.byteCells (headP g (k + 1)) = Lib.byteCells (headP g k) ++ Lib.strCells ⟨(lineT (b, A)).toArray⟩ := by
          rw [str_bytes]
          simp [headP, unhide HTK, Lib.byteCells]
        rw [e]
        exact hb4
      clear hb4 hB4
      go_wp2
      go_roundw
      case rel => exact ⟨k + 1, by omega, by go_num, H4⟩
      case measure => simp [intOf]; omega
    · obtain rfl : k = g.length := by omega
      have HB := hide (Tryz.Builder_String_any w.heap.size w.heap.size (headP g g.length) wr (Or.inr (unhide HX).1) (unhide HX).2.size)
      go_wp2_with fail
      refine (unhide HB).mono ?_
      rintro e w5 ⟨rfl, hB5⟩
      go_wp2
      go_ret
      refine ⟨congrArg Ending.returned (congrArg Value.string ?_), below_grownBy ((unhide HX).2.trans hB5) _⟩
      simp [headP, textT]

end Go.Proofs.YtdfnngehhiociaaGreatDoor

namespace Go.Proofs.YtdfnngehhiociaaGreatDoor
open Go.RowKit
open Go.Proofs (encStr)

/-- The words as runes, rising. -/
def wordsR (L : List Bs) : List Rs := (L.mergeSort leB).map runesD

theorem good_word {x : Bs} (h : wrong x = 0) : FineW (runesD x) ∧ (runesD x).length ≤ 10 ∧ encW (runesD x) = x ∧ runesD x ≠ [] := by
  obtain ⟨h0, h1, h2, h3⟩ := wrong_runes h
  refine ⟨fun r hr => ⟨runes_ok _ x (Nat.le_refl _) h1 r hr, h3 r hr⟩, h2, encW_runes h1, fun e => h0 ?_⟩
  rw [← encW_runes h1, e]
  rfl

theorem good_sound {L : List Bs} (h : Good L) : Sound (wordsR L) := by
  refine ⟨fun r hr => ?_, ?_, fun r hr => ?_⟩
  · obtain ⟨x, hx, rfl⟩ := List.mem_map.1 hr
    exact (good_word (h.2 x (List.mem_mergeSort.1 hx))).1
  · unfold wordsR
    rw [List.length_map, List.length_mergeSort]
    exact h.1
  · obtain ⟨x, hx, rfl⟩ := List.mem_map.1 hr
    exact (good_word (h.2 x (List.mem_mergeSort.1 hx))).2.1

theorem good_words {L : List Bs} (h : Good L) : L.mergeSort leB = (wordsR L).map encW := by
  unfold wordsR
  rw [List.map_map]
  have : ∀ M : List Bs, (∀ x ∈ M, wrong x = 0) → M = M.map (encW ∘ runesD) := by
    intro M
    induction M with
    | nil => intro _; rfl
    | cons x M ih =>
      intro hM
      rw [List.map_cons, ← ih fun y hy => hM y (List.mem_cons_of_mem _ hy)]
      show x :: M = encW (runesD x) :: M
      rw [(good_word (hM x (List.mem_cons_self ..))).2.2.1]
  exact this _ fun x hx => h.2 x (List.mem_mergeSort.1 hx)

theorem graph_small {W0 : List Rs} (h : Sound W0) : Small (graphR W0) := by
  have hw := sound_weight h
  have hle := graph_le W0
  have hI := graph_inv W0
  have hall : ∀ V ∈ listsR W0, Sound V := sound_iter h _
  have hll : (listsR W0).length ≤ 401 := lists_len h _
  refine ⟨by omega, fun s hs => ?_⟩
  obtain ⟨i, hi, rfl⟩ := List.getElem_of_mem hs
  obtain ⟨W, hW, _, h2, h3⟩ := hI.here i _ (List.getElem?_eq_getElem hi)
  have hS := hall W (List.mem_of_getElem? hW)
  have hfl : (firsts W).length ≤ 40 := by rw [(firsts_perm W).length_eq]; exact Nat.le_trans (heads_le W) hS.2.1
  refine ⟨?_, fun q hq => ⟨?_, ?_⟩⟩
  · have := congrArg List.length h2
    rw [List.length_map] at this
    omega
  · have hm : q.1 ∈ firsts W := by rw [← h2]; exact List.mem_map_of_mem hq
    obtain ⟨t, ht⟩ := mem_firsts.1 hm
    exact (hS.1 _ ht q.1 (List.mem_cons_self ..)).1
  · have := (List.getElem?_eq_some_iff.1 (h3 q hq)).1
    omega

theorem IsGraph.zero {base : Nat} {w : World} {v : Value} {g : List St} (h : IsGraph base w v g) : IsGraph 0 w v g := by
  obtain ⟨vs, h1, h2, h3⟩ := h.row
  exact ⟨vs, h1, row_base h2 (Nat.zero_le _), h3⟩

theorem graph_lex {b : Nat} {L : List Bs} {w : World} (hS : IsSet w b L) (hT : Tabs w) (hG : Good L) :
    Calls Tryz.prog 33 #[.map (some b)] w fun e w' => ∃ v, e = .returned v ∧ IsGraph 0 w' v (graphR (wordsR L)) ∧ w.grownBy w' none := by
  refine (graph_any b L (wordsR L) w hS hT (good_words hG) (good_sound hG)).mono ?_
  rintro e w' ⟨v, rfl, h1, h2⟩
  exact ⟨v, rfl, h1.zero, below_grownBy h2 _⟩

set_option maxHeartbeats 1000000 in
set_option maxRecDepth 100000 in
theorem encode_any (p : Nat) (L : List Bs) (w : World) (hL : IsLex w p L) (hT : Tabs w) (hP : Pow w) :
    Calls Tryz.prog 18 #[.pointer (some ⟨p, 0, none⟩)] w fun e w' => e = .returned (encStr (textT (graphR (wordsR L)))) ∧ w.grownBy w' none := by
  obtain ⟨b, hc, hS, hG⟩ := hL
  have HG := hide (graph_lex hS hT hG)
  have HP := hide hP
  clear hT hP hS
  go_enter Tryz.func18, Tryz.ntmps18
  go_wp2_with fail
  refine (unhide HG).mono ?_
  rintro e w1 ⟨v, rfl, hg, hg1⟩
  have HX := hide (text_any v (graphR (wordsR L)) w1 hg ((unhide HP).later hg1) (graph_small (good_sound hG)))
  go_wp2_with fail
  refine (unhide HX).mono ?_
  rintro e w2 ⟨rfl, hg2⟩
  go_wp2
  go_ret
  exact ⟨rfl, gnone hg1 hg2⟩

set_option maxHeartbeats 1000000 in
set_option maxRecDepth 100000 in
theorem states_any (p : Nat) (L : List Bs) (w : World) (hL : IsLex w p L) (hT : Tabs w) :
    Calls Tryz.prog 16 #[.pointer (some ⟨p, 0, none⟩)] w fun e w' => e = .returned (.int .i64 (graphR (wordsR L)).length) ∧ w.grownBy w' none := by
  obtain ⟨b, hc, hS, hG⟩ := hL
  have HG := hide (graph_lex hS hT hG)
  clear hT hS
  go_enter Tryz.func16, Tryz.ntmps16
  go_wp2_with fail
  refine (unhide HG).mono ?_
  rintro e w1 ⟨v, rfl, hg, hg1⟩
  obtain ⟨ad, cap, rfl⟩ : ∃ ad cap, v = .slice ad (graphR (wordsR L)).length cap := by
    obtain ⟨vs, _, hr, _⟩ := hg.row
    rcases hr.2 with ⟨rfl, h0⟩ | ⟨b, cap, cur, rfl, _⟩
    · exact ⟨none, 0, by rw [h0]⟩
    · exact ⟨_, _, rfl⟩
  go_wp2
  go_ret
  exact ⟨rfl, hg1⟩

end Go.Proofs.YtdfnngehhiociaaGreatDoor
