import Derived.Test.YtdfnngehhiociaaGreatDoorFar
import Derived.Test.YtdfnngehhiociaaGreatDoorWrong
import Derived.Test.YtdfnngehhiociaaGreatDoorBelow
import Derived.Test.YtdfnngehhiociaaGreatDoorSmall
import Derived.Lib.OthersKept
import Derived.Deep.RegionHeld3
import Derived.Deep.MidRow
namespace Go.Proofs.YtdfnngehhiociaaGreatDoor
open Go.RowKit

/-- Numbers as they lie in a row. -/
def ints (xs : List Int) : Array Value := (xs.map (Value.int .i64)).toArray

theorem change_n (a b : Int) (w : World) : Calls Tryz.prog 76 #[.int .i32 a, .int .i32 b] w fun e w' => e = .returned (.int .i64 (chgN a b : Nat)) ∧ w' = w := by
  refine (change_any a b w).mono ?_
  rintro e w' ⟨rfl, rfl⟩
  refine ⟨?_, rfl⟩
  unfold chg chgN
  split <;> rfl

theorem run_min3 (w : World) (ts : Array TypeId) (t : TypeId) (x y z : Int) : (Builtin.min_ ts t #[.int .i64 x, .int .i64 y, .int .i64 z]).run Tryz.prog w = .ok (.int .i64 (min (min x y) z)) w := by
  have h2 : ∀ x y : Int, (if y < x then y else x) = min x y := fun x y => by
    by_cases h : y < x
    · rw [if_pos h]; omega
    · rw [if_neg h]; omega
  simp [Builtin.min_, Builtin.min2, ← h2]

theorem chgN_le (a b : Int) : chgN a b ≤ 1 := by unfold chgN; split <;> omega

theorem cell_set_ne (w : World) (b i c j : Nat) (v u : Value) (h : w.cell? ⟨c, j, none⟩ = some u) (hne : b ≠ c ∨ i ≠ j) : (w.setCell ⟨b, i, none⟩ v).cell? ⟨c, j, none⟩ = some u := by
  rw [World.cell?_setCell_other _ _ _ _ (by intro h; simp only [Addr.mk.injEq] at h; omega)]
  exact h

theorem i64w (n : Int) (h0 : 0 ≤ n) (h1 : n < 9223372036854775808) : IntKind.i64.wrap n = n := wrap_small n h0 h1

/-- A row of eleven numbers lies in block b. -/
def RowAt (w : World) (b : Nat) (xs : List Int) : Prop := w.heap[b]? = some (.cells (ints xs) 122 (0, 0)) ∧ xs.length = 11

theorem RowAt.cell {w : World} {b : Nat} {xs : List Int} (h : RowAt w b xs) (i : Nat) (hi : i < 11) : w.cell? ⟨b, i, none⟩ = some (.int .i64 (xs.getD i 0)) := by
  rw [cell_of_row w b i _ _ _ h.1]
  have : i < xs.length := by rw [h.2]; exact hi
  simp [ints, List.getD, this]
theorem RowAt.frozen {w : World} {b : Nat} {xs : List Int} (h : RowAt w b xs) (i : Nat) : w.frozen? ⟨b, i, none⟩ = false := frozen_of_row w b i _ _ h.1
theorem RowAt.set {w : World} {b : Nat} {xs : List Int} (h : RowAt w b xs) (i : Nat) (v : Int) : RowAt (w.setCell ⟨b, i, none⟩ (.int .i64 v)) b (xs.set i v) := by
  refine ⟨?_, by simp [h.2]⟩
  rw [heap_setCell_same w b i _ _ _ h.1]
  simp [ints, List.map_set]
theorem RowAt.kept {w w' : World} {b : Nat} {xs : List Int} {row : Option Nat} (h : RowAt w b xs) (hg : w.grownBy w' row) (hne : some b ≠ row) : RowAt w' b xs :=
  ⟨(hg.block b (Array.getElem?_eq_some_iff.1 h.1).1 hne).trans h.1, h.2⟩
theorem RowAt.lt {w : World} {b : Nat} {xs : List Int} (h : RowAt w b xs) : b < w.heap.size := (Array.getElem?_eq_some_iff.1 h.1).1

theorem zeros_ints : (#[.int .i64 0, .int .i64 0, .int .i64 0, .int .i64 0, .int .i64 0, .int .i64 0, .int .i64 0, .int .i64 0, .int .i64 0, .int .i64 0, .int .i64 0] : Array Value) = ints (List.replicate 11 0) := rfl

theorem getD_set_lt (xs : List Int) (i k : Nat) (v : Int) (hk : k < xs.length) : (xs.set k v).getD i 0 = if i = k then v else xs.getD i 0 := by
  by_cases h : i = k
  · subst h; simp [List.getD, hk]
  · have h' : ¬ k = i := fun e => h e.symm
    simp [List.getD, h, h']

theorem rep_getD (i : Nat) : (List.replicate 11 (0 : Int)).getD i 0 = ((0 : Nat) : Int) := by
  simp only [List.getD, List.getElem?_replicate]
  split <;> rfl

theorem giter (w : World) (k : Nat) (s : ByteArray) (pos : Nat) : w.grownBy (w.iterAt k s pos) (some k) :=
  ⟨rfl, rfl, rfl, by simp [World.iterAt], fun i _ hi => by
    simp only [World.iterAt]
    rw [Array.getElem?_setIfInBounds_ne (fun e => hi (by rw [e]))]⟩
theorem iter_at (w : World) (k : Nat) (s : ByteArray) (pos : Nat) (h : k < w.heap.size) : (w.iterAt k s pos).heap[k]? = some (.stringIter s pos) := by
  simp [World.iterAt, h]

/-- Eleven numbers are stored, one after the other. -/
def put11 (w : World) (b : Nat) (xs : List Int) : World := (((((((((((w.setCell ⟨b, 0, none⟩ (.int .i64 (xs[0]?.getD 0))).setCell ⟨b, 1, none⟩ (.int .i64 (xs[1]?.getD 0))).setCell ⟨b, 2, none⟩ (.int .i64 (xs[2]?.getD 0))).setCell ⟨b, 3, none⟩ (.int .i64 (xs[3]?.getD 0))).setCell ⟨b, 4, none⟩ (.int .i64 (xs[4]?.getD 0))).setCell ⟨b, 5, none⟩ (.int .i64 (xs[5]?.getD 0))).setCell ⟨b, 6, none⟩ (.int .i64 (xs[6]?.getD 0))).setCell ⟨b, 7, none⟩ (.int .i64 (xs[7]?.getD 0))).setCell ⟨b, 8, none⟩ (.int .i64 (xs[8]?.getD 0))).setCell ⟨b, 9, none⟩ (.int .i64 (xs[9]?.getD 0))).setCell ⟨b, 10, none⟩ (.int .i64 (xs[10]?.getD 0)))

theorem put_list (zs xs : List Int) (h1 : zs.length = 11) (h2 : xs.length = 11) : (((((((((((zs.set 0 (xs[0]?.getD 0)).set 1 (xs[1]?.getD 0)).set 2 (xs[2]?.getD 0)).set 3 (xs[3]?.getD 0)).set 4 (xs[4]?.getD 0)).set 5 (xs[5]?.getD 0)).set 6 (xs[6]?.getD 0)).set 7 (xs[7]?.getD 0)).set 8 (xs[8]?.getD 0)).set 9 (xs[9]?.getD 0)).set 10 (xs[10]?.getD 0)) = xs := by
  match zs, xs, h1, h2 with
  | [_, _, _, _, _, _, _, _, _, _, _], [_, _, _, _, _, _, _, _, _, _, _], _, _ => rfl

theorem RowAt.put11 {w : World} {b : Nat} {zs : List Int} (h : RowAt w b zs) (xs : List Int) (h2 : xs.length = 11) : RowAt (put11 w b xs) b xs := by
  have := (((((((((((h.set 0 (xs[0]?.getD 0)).set 1 (xs[1]?.getD 0)).set 2 (xs[2]?.getD 0)).set 3 (xs[3]?.getD 0)).set 4 (xs[4]?.getD 0)).set 5 (xs[5]?.getD 0)).set 6 (xs[6]?.getD 0)).set 7 (xs[7]?.getD 0)).set 8 (xs[8]?.getD 0)).set 9 (xs[9]?.getD 0)).set 10 (xs[10]?.getD 0))
  rw [put_list zs xs h.2 h2] at this
  exact this

theorem gput11 (w : World) (b : Nat) (xs : List Int) : w.grownBy (put11 w b xs) (some b) :=
  (gtrans (gtrans (gtrans (gtrans (gtrans (gtrans (gtrans (gtrans (gtrans (gtrans (gset w ⟨b, 0, none⟩ (.int .i64 (xs[0]?.getD 0))) (gset _ ⟨b, 1, none⟩ _)) (gset _ ⟨b, 2, none⟩ _)) (gset _ ⟨b, 3, none⟩ _)) (gset _ ⟨b, 4, none⟩ _)) (gset _ ⟨b, 5, none⟩ _)) (gset _ ⟨b, 6, none⟩ _)) (gset _ ⟨b, 7, none⟩ _)) (gset _ ⟨b, 8, none⟩ _)) (gset _ ⟨b, 9, none⟩ _)) (gset _ ⟨b, 10, none⟩ _))

theorem rowAt_drew {w : World} {b : Nat} {xs : List Int} (h : RowAt w b xs) : RowAt w.drew b xs := h

/-- One row into another's place, and a third one into the first's. -/
theorem two_rows {w w0 : World} {A B R : Nat} {xa xb ys : List Int} {o : Obj} (hA : RowAt w A xa) (hB : RowAt w B xb) (hAB : A ≠ B) (hy : ys.length = 11) (hR : w.heap[R]? = some o) (hRA : R ≠ A) (hRB : R ≠ B) (hg : w0.grownBy w none) (h1 : w0.heap.size ≤ A) (h2 : w0.heap.size ≤ B) :
    ∃ w5, (put11 (put11 w A xb) B ys).drew = w5 ∧ RowAt w5 A xb ∧ RowAt w5 B ys ∧ w5.heap[R]? = some o ∧ w0.grownBy w5 none := by
  have g1 := gput11 w A xb
  have r1 := hA.put11 xb hB.2
  have b1 := hB.kept g1 (fun e => hAB (Option.some.inj e).symm)
  have i1 : (put11 w A xb).heap[R]? = some o := (g1.block R (Array.getElem?_eq_some_iff.1 hR).1 (fun e => hRA (Option.some.inj e))).trans hR
  have k1 : w0.grownBy (put11 w A xb) none := gnew hg g1 (fun j hj => by cases hj; exact h1)
  generalize put11 w A xb = w1 at g1 r1 b1 i1 k1 ⊢
  have g2 := gput11 w1 B ys
  have r2 := r1.kept g2 (fun e => hAB (Option.some.inj e))
  have b2 := b1.put11 ys hy
  have i2 : (put11 w1 B ys).heap[R]? = some o := (g2.block R (Array.getElem?_eq_some_iff.1 i1).1 (fun e => hRB (Option.some.inj e))).trans i1
  have k2 : w0.grownBy (put11 w1 B ys) none := gnew k1 g2 (fun j hj => by cases hj; exact h2)
  generalize put11 w1 B ys = w2 at g2 r2 b2 i2 k2 ⊢
  exact ⟨w2.drew, rfl, rowAt_drew r2, rowAt_drew b2, i2, grownBy_drew k2⟩

set_option maxHeartbeats 1000000 in
set_option maxRecDepth 100000 in
theorem howFar_any (g off cap : Nat) (a : List Int) (s : ByteArray) (w : World) (ha : a.length ≤ 10) (hw : ∀ j, j < a.length → w.cell? ⟨g, off + j, none⟩ = some (.int .i32 (a.getD j 0))) (hs : s.size ≤ 281474976710656) :
    Calls Tryz.prog 55 #[.slice (some ⟨g, off, none⟩) a.length cap, .string s] w fun e w' => e = .returned (.int .i64 (far a (runesD (bs s)) : Nat)) ∧ w.grownBy w' none := by
  generalize hF : far a (runesD (bs s)) = F
  have HF := hide hF
  clear hF
  go_enter Tryz.func55, Tryz.ntmps55
  go_wp2
  go_loopw [14] (fun i wr => ∃ (k : Nat) (xs : List Int), k ≤ 11 ∧ i = .int .i64 k ∧ RowAt wr (w.heap.size + 1) xs ∧ (∀ j, j < k → xs.getD j 0 = (j : Int)) ∧ RowAt wr w.heap.size (List.replicate 11 0) ∧ w.grownBy wr none ∧ wr.heap.size = w.heap.size + 2) (fun i _ => 11 - (intOf i).toNat)
  case atStart =>
    refine ⟨0, List.replicate 11 0, Nat.zero_le _, rfl, ⟨?_, rfl⟩, fun j hj => absurd hj (by omega), ⟨?_, rfl⟩, ?_, by simp⟩
    · exact heap_alloc2_new w _ _
    · exact heap_alloc2_old w _ _
    · exact gnone (grownBy_none_alloc _ _) (grownBy_none_alloc _ _)
  case round =>
    obtain ⟨k, xs, hk, rfl, hB, hxs, hA, hg, hsz⟩ := hrel
    have Hsz := hide hsz
    clear hsz
    by_cases hlt : k < 11
    · have hc := hB.cell k hlt
      have hz := hB.frozen k
      have hki : (k : Int) < 11 := by omega
      go_wp2
      go_roundw
      case rel =>
        have hne : some w.heap.size ≠ some (w.heap.size + 1) := fun e => by have := Option.some.inj e; omega
        refine ⟨k + 1, xs.set k k, by omega, by go_num, hB.set k k, fun j hj => ?_, hA.kept (gset _ _ _) hne, gnew hg (gset _ _ _) (fun j hj => by cases hj; exact Nat.le_succ _), by simp; exact unhide Hsz⟩
        rw [getD_set_lt _ _ _ _ (by rw [hB.2]; exact hlt)]
        by_cases e : j = k
        · rw [if_pos e, e]
        · rw [if_neg e]; exact hxs j (by omega)
      case measure => simp [intOf]; omega
    · have hki : ¬ (k : Int) < 11 := by omega
      go_wp2
      have hRsz := unhide Hsz
      obtain ⟨R, hR⟩ : ∃ R, wr.heap.size = R := ⟨_, rfl⟩
      have hA0 : RowAt (wr.iter s 0) w.heap.size (List.replicate 11 0) := hA.kept (row := none) (grownBy_none_alloc _ _) (by simp)
      have hB0 : RowAt (wr.iter s 0) (w.heap.size + 1) xs := hB.kept (row := none) (grownBy_none_alloc _ _) (by simp)
      have hi0 : (wr.iter s 0).heap[R]? = some (.stringIter s 0) := by rw [← hR]; exact World.iter_heap wr s 0
      have hg0 : w.grownBy (wr.iter s 0) none := gnone hg (grownBy_none_alloc _ _)
      have hR0 : R < (wr.iter s 0).heap.size := (Array.getElem?_eq_some_iff.1 hi0).1
      have hRA : w.heap.size + 1 < R := by omega
      rw [hR]
      generalize wr.iter s 0 = w0 at hA0 hB0 hi0 hg0 hR0 ⊢
      clear hA hB hg hR hRsz Hsz
      go_loopw [8] (fun l wo => ∃ (pos n : Nat) (last : Int) (bf hr : Nat → Nat) (xa xb : List Int), l = .int .i32 last ∧ wo.heap[R]? = some (.stringIter s pos) ∧ RowAt wo w.heap.size xa ∧ RowAt wo (w.heap.size + 1) xb ∧ (∀ i, i ≤ a.length → xa.getD i 0 = (bf i : Nat)) ∧ (∀ i, i ≤ a.length → xb.getD i 0 = (hr i : Nat)) ∧ (∀ i, bf i ≤ i + n) ∧ (∀ i, hr i ≤ i + n) ∧ n ≤ pos ∧ w.grownBy wo none ∧ R < wo.heap.size ∧ Hid (runRows a bf hr last (runesD ((bs s).drop pos)) = F)) (fun _ wo => s.size - wo.iterPos R)
      case atStart =>
        refine ⟨0, 0, 0, fun _ => 0, id, _, _, rfl, hi0, hA0, hB0, fun i hi => ?_, fun i hi => hxs i (by omega), fun i => Nat.zero_le _, fun i => Nat.le_refl _, Nat.le_refl _, hg0, hR0, HF⟩
        exact rep_getD i
      case round =>
        obtain ⟨pos, n, last, bf, hr, xa, xb, rfl, hit, hAo, hBo, hxa, hxb, hbf, hhr, hn, hgo, hRo, hRun⟩ := hrel
        have HP := hide (show wr.iterPos R = pos by simp [World.iterPos, hit])
        by_cases hp : pos < s.size
        · obtain ⟨wi, hwi⟩ : ∃ wi, wr.iterAt R s (pos + (Utf8.decode s pos).2) = wi := ⟨_, rfl⟩
          have hgi : wr.grownBy wi (some R) := by rw [← hwi]; exact giter _ _ _ _
          have hiti : wi.heap[R]? = some (.stringIter s (pos + (Utf8.decode s pos).2)) := by rw [← hwi]; exact iter_at _ _ _ _ hRo
          have hnx : ∀ ty, (Instr.next (.pointer (some ⟨R, 0, none⟩)) true ty).run Tryz.prog wr = .ok (.tuple #[.bool true, .int .i64 pos, .int .i32 (Utf8.decode s pos).1]) wi := fun ty => by rw [← hwi]; exact Lib.run_next_any_at wr R s pos ty hit hp
          have hwd := Lib.decode_width_pos s pos hp
          have hstep := runes_at s pos hp
          clear hwi
          have hAi := hAo.kept hgi (fun e => by have := Option.some.inj e; omega)
          have hBi := hBo.kept hgi (fun e => by have := Option.some.inj e; omega)
          have hgwi : w.grownBy wi none := gnew hgo hgi (fun j hj => by cases hj; omega)
          have hRi : R < wi.heap.size := Nat.lt_of_lt_of_le hRo hgi.size
          obtain ⟨p', hp'⟩ : ∃ p', pos + (Utf8.decode s pos).2 = p' := ⟨_, rfl⟩
          rw [hp'] at hiti hstep
          obtain ⟨r, hrr⟩ : ∃ r : Int, (((Utf8.decode s pos).1 : Nat) : Int) = r := ⟨_, rfl⟩
          rw [hrr] at hstep
          simp only [hrr] at hnx
          have hpp : n + 1 ≤ p' ∧ pos < p' := by omega
          clear hrr hp' hwd
          have HS := hide hstep
          clear hstep
          have hb0 := hBi.cell 0 (by omega)
          rw [hxb 0 (Nat.zero_le _)] at hb0
          have hh0 := hhr 0
          go_wp2
          have hCc : RowAt (wi.alloc (.cells #[.int .i64 ((hr 0 : Nat) + 1), .int .i64 0, .int .i64 0, .int .i64 0, .int .i64 0, .int .i64 0, .int .i64 0, .int .i64 0, .int .i64 0, .int .i64 0, .int .i64 0] 122)) wi.heap.size (((hr 0 : Nat) + 1 : Int) :: List.replicate 10 0) := ⟨heap_alloc_new wi _, rfl⟩
          have hAc := hAi.kept (grownBy_none_alloc wi (.cells #[.int .i64 ((hr 0 : Nat) + 1), .int .i64 0, .int .i64 0, .int .i64 0, .int .i64 0, .int .i64 0, .int .i64 0, .int .i64 0, .int .i64 0, .int .i64 0, .int .i64 0] 122)) (by simp)
          have hBc := hBi.kept (grownBy_none_alloc wi (.cells #[.int .i64 ((hr 0 : Nat) + 1), .int .i64 0, .int .i64 0, .int .i64 0, .int .i64 0, .int .i64 0, .int .i64 0, .int .i64 0, .int .i64 0, .int .i64 0, .int .i64 0] 122)) (by simp)
          have hgc := gnone hgwi (grownBy_none_alloc wi (.cells #[.int .i64 ((hr 0 : Nat) + 1), .int .i64 0, .int .i64 0, .int .i64 0, .int .i64 0, .int .i64 0, .int .i64 0, .int .i64 0, .int .i64 0, .int .i64 0, .int .i64 0] 122))
          have hic := (Below.heap_alloc wi (.cells #[.int .i64 ((hr 0 : Nat) + 1), .int .i64 0, .int .i64 0, .int .i64 0, .int .i64 0, .int .i64 0, .int .i64 0, .int .i64 0, .int .i64 0, .int .i64 0, .int .i64 0] 122) R hRi).trans hiti
          obtain ⟨C, hC⟩ : ∃ C, wi.heap.size = C := ⟨_, rfl⟩
          have hRC : R < C := by omega
          rw [hC] at hCc ⊢
          generalize (wi.alloc (.cells #[.int .i64 ((hr 0 : Nat) + 1), .int .i64 0, .int .i64 0, .int .i64 0, .int .i64 0, .int .i64 0, .int .i64 0, .int .i64 0, .int .i64 0, .int .i64 0, .int .i64 0] 122)) = wc at hCc hAc hBc hgc hic ⊢
          clear hC hAi hBi hgwi hiti hRi hnx hgi hb0 hit hAo hBo hgo hRo
          go_loopw [32] (fun i wn => ∃ (k : Nat) (ys : List Int), k ≤ a.length ∧ i = .int .i64 k ∧ RowAt wn C ys ∧ (∀ j, j ≤ k → ys.getD j 0 = (stepRow a bf hr last r j : Nat)) ∧ RowAt wn w.heap.size xa ∧ RowAt wn (w.heap.size + 1) xb ∧ wn.heap[R]? = some (.stringIter s p') ∧ w.grownBy wn none) (fun i _ => a.length - (intOf i).toNat)
          case atStart =>
            refine ⟨0, _, Nat.zero_le _, rfl, hCc, fun j hj => ?_, hAc, hBc, hic, hgc⟩
            obtain rfl : j = 0 := by omega
            rfl
          case round =>
            obtain ⟨q, ys, hq, rfl, hCn, hys, hAn, hBn, hin, hgn⟩ := hrel
            by_cases hqa : q < a.length
            · have hqi : (q : Int) < (a.length : Int) := by omega
              have hcw : wr.cell? ⟨g, off + q, none⟩ = some (.int .i32 (a.getD q 0)) := hgn.cell (hw q hqa) (by simp)
              have hcy := hCn.cell q (by omega)
              rw [hys q (Nat.le_refl _)] at hcy
              have hcy1 := hCn.cell (q + 1) (by omega)
              have hfy1 := hCn.frozen (q + 1)
              have hcb0 := hBn.cell q (by omega)
              rw [hxb q (by omega)] at hcb0
              have hcb1 := hBn.cell (q + 1) (by omega)
              rw [hxb (q + 1) (by omega)] at hcb1
              have hb1 := stepRow_le a bf hr last r n hhr q
              have hb2 := hhr q
              have hb3 := hhr (q + 1)
              generalize hx1 : stepRow a bf hr last r q = x1 at hcy hb1
              generalize hx2 : hr q = x2 at hcb0 hb2
              generalize hx3 : hr (q + 1) = x3 at hcb1 hb3
              generalize ho : a.getD q 0 = own at hcw
              have HX1 := hide hx1
              have HX2 := hide hx2
              have HX3 := hide hx3
              have HO := hide ho
              clear hx1 hx2 hx3 ho
              generalize ys.getD (q + 1) 0 = y1 at hcy1
              have hq0 : (0 : Int) ≤ (q : Int) := by omega
              have hq11 : (q : Int) < 11 := by omega
              have hq1 : (q : Int) + 1 < 11 := by omega
              have hq01 : (0 : Int) ≤ (q : Int) + 1 := by omega
              have hwq := i64w ((q : Int) + 1) (by omega) (by omega)
              have hw1 := i64w ((x1 : Int) + 1) (by omega) (by omega)
              have hw3 := i64w ((x3 : Int) + 1) (by omega) (by omega)
              have hch := chgN_le own r
              have hw2 := i64w ((x2 : Int) + ((chgN own r : Nat) : Int)) (by omega) (by omega)
              have hmin3 := run_min3
              go_wp2
              go_region_held3 (fun w' => w'.cell? ⟨C, q, none⟩ = some (.int .i64 x1) ∧ w'.cell? ⟨w.heap.size + 1, q + 1, none⟩ = some (.int .i64 x3) ∧ w'.cell? ⟨w.heap.size + 1, q, none⟩ = some (.int .i64 x2)) (first | exact ⟨cell_set_ne wr C (q + 1) C q _ _ hcy (by omega), cell_set_ne wr C (q + 1) (w.heap.size + 1) (q + 1) _ _ hcb1 (by omega), cell_set_ne wr C (q + 1) (w.heap.size + 1) q _ _ hcb0 (by omega)⟩ | go_keep) ((go_at_call 76; refine (change_n _ _ _).mono ?_; rintro e w' ⟨rfl, rfl⟩))
              have hC3 : RowAt (wr.setCell ⟨C, q + 1, none⟩ (.int .i64 (min (min (x1 : Int) (x3 : Int) + 1) ((x2 : Int) + ((chgN own r : Nat) : Int))))).drew C (ys.set (q + 1) (min (min (x1 : Int) (x3 : Int) + 1) ((x2 : Int) + ((chgN own r : Nat) : Int)))) := hCn.set _ _
              have hg3a : wr.grownBy (wr.setCell ⟨C, q + 1, none⟩ (.int .i64 (min (min (x1 : Int) (x3 : Int) + 1) ((x2 : Int) + ((chgN own r : Nat) : Int))))).drew (some C) := grownBy_drew (gset _ _ _)
              generalize (wr.setCell ⟨C, q + 1, none⟩ (.int .i64 (min (min (x1 : Int) (x3 : Int) + 1) ((x2 : Int) + ((chgN own r : Nat) : Int))))).drew = w3 at hC3 hg3a ⊢
              obtain ⟨t, ht⟩ : ∃ t : Nat, min (min (x1 : Int) (x3 : Int) + 1) ((x2 : Int) + ((chgN own r : Nat) : Int)) = (t : Int) := ⟨min (min (x1 + 1) (x3 + 1)) (x2 + chgN own r), by omega⟩
              rw [ht] at hC3
              have HT := hide ht
              clear ht
              have hA3 := hAn.kept hg3a (fun e => by have := Option.some.inj e; omega)
              have hB3 := hBn.kept hg3a (fun e => by have := Option.some.inj e; omega)
              have hi3 : w3.heap[R]? = some (.stringIter s p') := (hg3a.block R (Array.getElem?_eq_some_iff.1 hin).1 (fun e => by have := Option.some.inj e; omega)).trans hin
              have hg3 : w.grownBy w3 none := gnew hgn hg3a (fun j hj => by cases hj; omega)
              have hy3 : ∀ j, j ≤ q → (ys.set (q + 1) (t : Int)).getD j 0 = (stepRow a bf hr last r j : Nat) := fun j hj => by
                rw [getD_set_lt _ _ _ _ (by rw [hCn.2]; omega), if_neg (by omega)]
                exact hys j hj
              have hyT : (ys.set (q + 1) (t : Int)).getD (q + 1) 0 = (t : Int) := by
                rw [getD_set_lt _ _ _ _ (by rw [hCn.2]; omega), if_pos rfl]
              generalize ys.set (q + 1) (t : Int) = ys3 at hC3 hy3 hyT
              clear hCn hAn hBn hin hgn hcy hcy1 hfy1 hcb0 hcb1 hg3a hys hmin3 hw1 hw2 hw3
              have hcw3 : w3.cell? ⟨g, off + q, none⟩ = some (.int .i32 (a.getD q 0)) := hg3.cell (hw q hqa) (by simp)
              by_cases hx : 0 < q ∧ own = last ∧ a.getD (q - 1) 0 = r
              · have hqf : (0 : Int) < (q : Int) := by omega
                have hol' : (own == last) = true := by simpa using hx.2.1
                have hcp : w3.cell? ⟨g, off + (q - 1), none⟩ = some (.int .i32 (a.getD (q - 1) 0)) := hg3.cell (hw (q - 1) (by omega)) (by simp)
                have hpr := hx.2.2
                have hTs : stepRow a bf hr last r (q + 1) = min t (bf (q - 1) + 1) := by
                  rw [stepRow, unhide HO, if_pos hx, unhide HX1, unhide HX2, unhide HX3]
                  have := unhide HT
                  omega
                generalize a.getD (q - 1) 0 = pr at hcp hpr
                have hpr' : (pr == r) = true := by simpa using hpr
                have hct := hC3.cell (q + 1) (by omega)
                rw [hyT] at hct
                have hft := hC3.frozen (q + 1)
                have hca := hA3.cell (q - 1) (by omega)
                rw [hxa (q - 1) (by omega)] at hca
                have hbz := hbf (q - 1)
                generalize bf (q - 1) = z at hca hbz hTs
                have HTs := hide hTs
                clear hTs hx hpr
                have hqm0 : (0 : Int) ≤ (q : Int) - 1 := by omega
                have hqm1 : (q : Int) - 1 < 11 := by omega
                have hwqm := i64w ((q : Int) - 1) (by omega) (by omega)
                have hwz := i64w ((z : Int) + 1) (by omega) (by omega)
                go_wp2
                go_region
                clear hwqm hwz hwq hcp hct hft hca hol' hpr'
                go_wp2
                go_roundw
                case rel =>
                  have hg4 : w3.grownBy (w3.setCell ⟨C, q + 1, none⟩ (.int .i64 (min (t : Int) ((z : Int) + 1)))).drew (some C) := grownBy_drew (gset _ _ _)
                  refine ⟨q + 1, ys3.set (q + 1) (min (t : Int) ((z : Int) + 1)), by omega, by go_num, hC3.set _ _, fun j hj => ?_, hA3.kept hg4 (fun e => by have := Option.some.inj e; omega), hB3.kept hg4 (fun e => by have := Option.some.inj e; omega), (hg4.block R (Array.getElem?_eq_some_iff.1 hi3).1 (fun e => by have := Option.some.inj e; omega)).trans hi3, gnew hg3 hg4 (fun j hj => by cases hj; omega)⟩
                  rw [getD_set_lt _ _ _ _ (by rw [hC3.2]; omega)]
                  by_cases e : j = q + 1
                  · rw [if_pos e, e, unhide HTs]; omega
                  · rw [if_neg e]; exact hy3 j (by omega)
                case measure => simp [intOf]; omega
              · have hTs : stepRow a bf hr last r (q + 1) = t := by
                  rw [stepRow, unhide HO, if_neg hx, unhide HX1, unhide HX2, unhide HX3]
                  have := unhide HT
                  omega
                have hy4 : ∀ j, j ≤ q + 1 → ys3.getD j 0 = (stepRow a bf hr last r j : Nat) := fun j hj => by
                  by_cases e : j = q + 1
                  · rw [e, hyT, hTs]
                  · exact hy3 j (by omega)
                clear hTs hy3 hyT
                by_cases hq00 : q = 0
                · have hqf : ¬ (0 : Int) < (q : Int) := by omega
                  go_wp2
                  go_roundw
                  case rel => exact ⟨q + 1, ys3, by omega, by go_num, hC3, hy4, hA3, hB3, hi3, hg3⟩
                  case measure => simp [intOf]; omega
                · have hqf : (0 : Int) < (q : Int) := by omega
                  by_cases hol : own = last
                  · have hol' : (own == last) = true := by simpa using hol
                    have hpr : ¬ a.getD (q - 1) 0 = r := fun e => hx ⟨by omega, hol, e⟩
                    have hcp : w3.cell? ⟨g, off + (q - 1), none⟩ = some (.int .i32 (a.getD (q - 1) 0)) := hg3.cell (hw (q - 1) (by omega)) (by simp)
                    generalize a.getD (q - 1) 0 = pr at hcp hpr
                    have hpr' : (pr == r) = false := by simpa using hpr
                    clear hx hol hpr
                    go_wp2
                    go_roundw
                    case rel => exact ⟨q + 1, ys3, by omega, by go_num, hC3, hy4, hA3, hB3, hi3, hg3⟩
                    case measure => simp [intOf]; omega
                  · have hol' : (own == last) = false := by simpa using hol
                    clear hx hol
                    go_wp2
                    go_roundw
                    case rel => exact ⟨q + 1, ys3, by omega, by go_num, hC3, hy4, hA3, hB3, hi3, hg3⟩
                    case measure => simp [intOf]; omega
            · obtain rfl : q = a.length := by omega
              have hAall : ∀ i, i < 11 → wr.cell? ⟨w.heap.size, i, none⟩ = some (.int .i64 (xa.getD i 0)) := fun i hi => hAn.cell i hi
              have hBall : ∀ i, i < 11 → wr.cell? ⟨w.heap.size + 1, i, none⟩ = some (.int .i64 (xb.getD i 0)) := fun i hi => hBn.cell i hi
              have hCall : ∀ i, i < 11 → wr.cell? ⟨C, i, none⟩ = some (.int .i64 (ys.getD i 0)) := fun i hi => hCn.cell i hi
              have hAf : ∀ i, wr.frozen? ⟨w.heap.size, i, none⟩ = false := hAn.frozen
              have hBf : ∀ i, wr.frozen? ⟨w.heap.size + 1, i, none⟩ = false := hBn.frozen
              go_wp2
              go_region
              clear hAall hBall hCall hAf hBf
              obtain ⟨w5, hw5, hA5, hB5, hi5, hg5⟩ := two_rows hAn hBn (by omega) hCn.2 hin (by omega) (by omega) hgn (Nat.le_refl _) (Nat.le_succ _)
              unfold put11 at hw5
              rw [hw5]
              clear hw5 hAn hBn hCn hin hgn
              go_wp2
              go_roundw
              case rel =>
                refine ⟨p', n + 1, r, hr, stepRow a bf hr last r, xb, ys, rfl, hi5, hA5, hB5, hxb, hys, fun i => by have := hhr i; omega, fun i => stepRow_le a bf hr last r n hhr i, hpp.1, hg5, (Array.getElem?_eq_some_iff.1 hi5).1, ?_⟩
                have := unhide hRun
                rw [unhide HS, runRows] at this
                exact this
              case measure =>
                have e5 : w5.iterPos R = p' := by simp [World.iterPos, hi5]
                rw [e5, unhide HP]
                omega
        · have hnx : ∀ ty, (Instr.next (.pointer (some ⟨R, 0, none⟩)) true ty).run Tryz.prog wr = _ := fun ty => Lib.run_next_end_at wr R s pos ty hit hp
          have hc := hBo.cell a.length (by omega)
          rw [hxb _ (Nat.le_refl _)] at hc
          have hfin : hr a.length = F := by
            have := unhide hRun
            rw [drop_end s pos hp] at this
            exact this
          rw [hfin] at hc
          go_wp2
          go_ret
          exact ⟨rfl, hgo⟩

end Go.Proofs.YtdfnngehhiociaaGreatDoor
