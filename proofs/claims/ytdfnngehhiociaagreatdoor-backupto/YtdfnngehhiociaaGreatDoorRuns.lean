import Derived.Test.YtdfnngehhiociaaGreatDoorProg
import Derived.Sort.WalkA
import Derived.WalkKit
import Derived.Handy
import Derived.BigGuard
import Derived.BigCall
import Derived.CellFam
import Derived.Deep.Draws
import Derived.Deep.QuietTactic
import Derived.BigQuiet
import Derived.Maps.AppendAt
import Derived.Sort.AssemblyPlain
import Derived.Deep.AppendLies
import Derived.Maps.RangeWalk
import Derived.Test.YtdfnngehhiociaaGreatDoorShelfD
import Derived.Sort.Walk7
import Derived.Deep.Cut
import Derived.Sort.Walk13
import Derived.Test.YtdfnngehhiociaaGreatDoorShelf
import Derived.RangeFuncNested
import Derived.RangeFuncBound
import Derived.RangeFuncCalls
import Derived.RangeFuncBox
import Derived.RangeFuncLeaves
import Derived.Shelf.Abstract
import Derived.OwnWalkIn
import Derived.TacticsInMore
import Derived.LoopNIn
import Derived.LoopIn
import Derived.Sort.MapsRangeIn
import Derived.Sort.KeysCollected
import Derived.Sort.EveryDepth
import Derived.Shelf.SlIter.Collect
import Derived.Test.YtdfnngehhiociaaGreatDoorSets
namespace Go.Proofs.YtdfnngehhiociaaGreatDoor
open Go.RowKit Go.Sort

/-- A row of runes lies there, and all else is as it was in w0, but for new blocks. -/
structure RowH (w0 : World) (blk off : Nat) (d : Array Int) (w : World) : Prop where
  holds : Holds (Value.int .i32) w blk off d
  grown : w0.grownBy w (some blk)
  typ : ∀ c e f, w0.heap[blk]? = some (.cells c e f) → ∃ c', w.heap[blk]? = some (.cells c' e f)

theorem grown_set (w : World) (blk k : Nat) (v : Value) : w.grownBy (w.setCell ⟨blk, k, none⟩ v) (some blk) := by
  refine ⟨rfl, rfl, rfl, by simp [World.setCell], fun i _ hne => ?_⟩
  simp only [World.setCell, Array.getElem?_modify]
  rw [if_neg (fun e => hne (by rw [e]))]

theorem grown_draws (w : World) (q : Nat) (row : Option Nat) : w.grownBy (w.drewN q) row := ⟨rfl, rfl, rfl, Nat.le_refl _, fun _ _ _ => rfl⟩

theorem RowH.refl {w : World} {blk off : Nat} {d : Array Int} (h : Holds (Value.int .i32) w blk off d) : RowH w blk off d w := ⟨h, ⟨rfl, rfl, rfl, Nat.le_refl _, fun _ _ _ => rfl⟩, fun c _ _ h => ⟨c, h⟩⟩
theorem RowH.draws {w0 w : World} {blk off : Nat} {d : Array Int} (h : RowH w0 blk off d w) (q : Nat) : RowH w0 blk off d (w.drewN q) := ⟨h.holds, h.grown.trans (grown_draws w q _), h.typ⟩
theorem RowH.trans {w0 w1 w2 : World} {blk off : Nat} {d d' : Array Int} (h : RowH w0 blk off d w1) (k : RowH w1 blk off d' w2) : RowH w0 blk off d' w2 := ⟨k.holds, h.grown.trans k.grown, fun c e f hc => by
  obtain ⟨c1, h1⟩ := h.typ c e f hc
  exact k.typ c1 e f h1⟩

theorem RowH.set {w0 w : World} {blk off : Nat} {d : Array Int} (h : RowH w0 blk off d w) (i : Nat) (x : Int) (hi : i < d.size) : RowH w0 blk off (d.setIfInBounds i x) (w.setCell ⟨blk, off + i, none⟩ (.int .i32 x)) := by
  refine ⟨?_, h.grown.trans (grown_set _ _ _ _), fun c e f hc => ?_⟩
  rotate_left
  · obtain ⟨c1, h1⟩ := h.typ c e f hc
    exact ⟨_, by simp [World.setCell, Array.getElem?_modify, h1]; rfl⟩
  have e := putRow_set (Value.int .i32) w blk off d i x hi
  rw [putRow_self _ _ _ _ _ h.holds] at e
  rw [e]
  exact holds_putRow _ _ _ _ d _ h.holds (by simp)

/-- Two elements change places. -/
theorem RowH.swap {w0 w : World} {blk off : Nat} {d : Array Int} (h : RowH w0 blk off d w) (i j : Nat) (hi : i < d.size) (hj : j < d.size) :
    RowH w0 blk off (swp d i j) ((w.setCell ⟨blk, off + i, none⟩ (.int .i32 d[j]!)).setCell ⟨blk, off + j, none⟩ (.int .i32 d[i]!)) :=
  (h.set i d[j]! hi).set j d[i]! (by simpa using hj)

theorem nan_rune (x : Int) (w : World) : Calls Tryz.prog 169 #[.int .i32 x] w fun e w' => e = .returned (.bool false) ∧ w' = w := by
  go_enter Tryz.func169, Tryz.ntmps169
  go_wp2
  go_ret
  exact ⟨by simp, rfl⟩

theorem less_rune (x y : Int) (w : World) : Calls Tryz.prog 151 #[.int .i32 x, .int .i32 y] w fun e w' => e = .returned (.bool (ltInt x y)) ∧ w' = w := by
  go_enter Tryz.func151, Tryz.ntmps151
  go_wp2_with (go_at_call 169; refine (nan_rune _ _).mono ?_; rintro e w' ⟨rfl, rfl⟩)
  go_ret
  exact ⟨rfl, rfl⟩

end Go.Proofs.YtdfnngehhiociaaGreatDoor

namespace Go.Proofs.YtdfnngehhiociaaGreatDoor
open Go.RowKit Go.Sort

/-- The cells of the row, for a walk: under a name of their own. -/
theorem RowH.cells {w0 w : World} {blk off : Nat} {d : Array Int} (h : RowH w0 blk off d w) : ∃ G : Nat → Int, (∀ t, t < d.size → w.cell? ⟨blk, off + t, none⟩ = some (.int .i32 (G t))) ∧ (∀ t, t < d.size → w.frozen? ⟨blk, off + t, none⟩ = false) ∧ Hid (∀ t, G t = d[t]!) :=
  ⟨fun t => d[t]!, fun t ht => (h.holds t ht).1, fun t ht => (h.holds t ht).2, fun _ => rfl⟩

set_option maxHeartbeats 1000000 in
set_option maxRecDepth 100000 in
theorem insert_rune (blk off cap a b : Nat) (d : Array Int) (w : World) (hH : Holds (Value.int .i32) w blk off d) (hab : a ≤ b) (hb : b ≤ d.size) (hsz : d.size < 50) :
    Calls Tryz.prog 145 #[.slice (some ⟨blk, off, none⟩) d.size cap, .int .i64 a, .int .i64 b] w fun e w' => e = .returned (.tuple #[]) ∧ RowH w blk off (insertionSort ltInt d a b) w' := by
  have h0 := RowH.refl hH
  have H0 : Hid (RowH w blk off d w) := h0
  clear h0 hH
  go_enter Tryz.func145, Tryz.ntmps145
  go_wp2
  go_loopw [6] (fun vi wr => ∃ (i : Nat) (dk : Array Int), vi = .int .i64 i ∧ a < i ∧ i ≤ b + 1 ∧ dk.size = d.size ∧ Hid (RowH w blk off dk wr) ∧ Hid (insOuter ltInt a b i dk = insertionSort ltInt d a b)) (fun vi _ => b + 1 - (intOf vi).toNat)
  case atStart => exact ⟨a + 1, d, by go_num, by omega, by omega, rfl, H0, rfl⟩
  case round =>
    obtain ⟨i, dk, rfl, hai, hib, hsk, hR, hO⟩ := hrel
    by_cases hlt : i < b
    · go_wp2
      go_loopw [7] (fun vj wr2 => ∃ (j : Nat) (dj : Array Int), vj = .int .i64 j ∧ a ≤ j ∧ j ≤ i ∧ dj.size = d.size ∧ Hid (RowH w blk off dj wr2) ∧ Hid (insInner ltInt a j dj = insInner ltInt a i dk)) (fun vj _ => (intOf vj).toNat)
      case atStart => exact ⟨i, dk, rfl, by omega, Nat.le_refl _, hsk, hR, rfl⟩
      case round =>
        clear hR
        obtain ⟨j, dj, rfl, haj, hji, hsj, hR, hI⟩ := hrel
        obtain ⟨G, hcw, hfw, hG⟩ := hR.out.cells
        rw [hsj] at hcw hfw
        have OUT : Hid ((j ≤ a ∨ ltInt dj[j]! dj[j - 1]! = false) → insOuter ltInt a b (i + 1) dj = insertionSort ltInt d a b) := fun hs => by
          rw [← hO.out, insOuter_go _ _ _ _ _ hlt, ← hI.out, insInner_stop _ _ _ _ hs]
        go_wp2
        by_cases hja : a < j
        · go_quiet (first | (go_at_call 151; refine Calls.quiet_of_same (less_rune _ _ _)))
          go_wp2
          · have hl : ltInt (G j) (G (j - 1)) = true := by assumption
            go_region
            all_goals go_wp2
            go_roundw
            case rel =>
              refine ⟨j - 1, swp dj j (j - 1), by congr 1; omega, by omega, by omega, by rw [size_swp]; exact hsj, ?_, ?_⟩
              · rw [hG.out, hG.out]
                exact (hR.out.draws (nq + 1)).swap j (j - 1) (by omega) (by omega)
              · show insInner ltInt a (j - 1) (swp dj j (j - 1)) = _
                rw [← hI.out, insInner_go ltInt a j dj hja (by rw [← hG.out, ← hG.out]; exact hl)]
            case measure => simp [intOf]; omega
          · have hl : ltInt (G j) (G (j - 1)) = false := by assumption
            go_roundw
            case rel => exact ⟨i + 1, dj, by go_num, by omega, by omega, hsj, hR.out.draws nq, OUT.out (Or.inr (by rw [← hG.out, ← hG.out]; exact hl))⟩
            case measure => simp [intOf]; omega
        · go_quiet (first | (go_at_call 151; refine Calls.quiet_of_same (less_rune _ _ _)))
          go_wp2
          go_roundw
          case rel => exact ⟨i + 1, dj, by go_num, by omega, by omega, hsj, hR.out.draws nq, OUT.out (Or.inl (by omega))⟩
          case measure => simp [intOf]; omega
    · go_wp2
      go_end0
      refine ⟨rfl, ?_⟩
      have h := hO.out
      rw [insOuter_stop _ _ _ _ _ hlt] at h
      rw [← h]
      exact hR.out

theorem reverse_go (i j : Nat) (d : Array Int) (h : i < j) : reverseLoop i j d = reverseLoop (i + 1) (j - 1) (swp d i j) := by rw [reverseLoop, if_pos h]
theorem reverse_stop (i j : Nat) (d : Array Int) (h : ¬ i < j) : reverseLoop i j d = d := by rw [reverseLoop, if_neg h]

set_option maxHeartbeats 1000000 in
set_option maxRecDepth 100000 in
theorem reverse_rune (blk off cap a b : Nat) (d : Array Int) (w : World) (hH : Holds (Value.int .i32) w blk off d) (hab : a < b) (hb : b ≤ d.size) (hsz : d.size < 50) :
    Calls Tryz.prog 149 #[.slice (some ⟨blk, off, none⟩) d.size cap, .int .i64 a, .int .i64 b] w fun e w' => e = .returned (.tuple #[]) ∧ RowH w blk off (reverseRange d a b) w' := by
  have h0 := RowH.refl hH
  have H0 : Hid (RowH w blk off d w) := h0
  clear h0 hH
  go_enter Tryz.func149, Tryz.ntmps149
  go_wp2
  go_loopw [6, 7] (fun vi vj wr => ∃ (i j : Nat) (dk : Array Int), vi = .int .i64 i ∧ vj = .int .i64 j ∧ a ≤ i ∧ j < b ∧ i ≤ j + 1 ∧ dk.size = d.size ∧ Hid (RowH w blk off dk wr) ∧ Hid (reverseLoop i j dk = reverseRange d a b)) (fun _ vj _ => (intOf vj).toNat)
  case atStart => exact ⟨a, b - 1, d, rfl, by congr 1; omega, by omega, by omega, by omega, rfl, H0, rfl⟩
  case round =>
    obtain ⟨i, j, dk, rfl, rfl, hai, hjb, hij, hsk, hR, hO⟩ := hrel
    obtain ⟨G, hcw, hfw, hG⟩ := hR.out.cells
    rw [hsk] at hcw hfw
    by_cases hlt : i < j
    · go_wp2
      go_region
      all_goals go_wp2
      go_roundw
      case rel =>
        refine ⟨i + 1, j - 1, swp dk i j, by go_num, by congr 1; omega, by omega, by omega, by omega, by rw [size_swp]; exact hsk, ?_, ?_⟩
        · rw [hG.out, hG.out]
          exact (hR.out.draws 1).swap i j (by omega) (by omega)
        · show reverseLoop (i + 1) (j - 1) (swp dk i j) = _
          rw [← hO.out, reverse_go i j dk hlt]
      case measure => simp [intOf]; omega
    · go_wp2
      go_end0
      refine ⟨rfl, ?_⟩
      have h := hO.out
      rw [reverse_stop _ _ _ hlt] at h
      rw [← h]
      exact hR.out

end Go.Proofs.YtdfnngehhiociaaGreatDoor

namespace Go.Proofs.YtdfnngehhiociaaGreatDoor
open Go.RowKit Go.Sort

theorem sift_end {hi first root : Nat} {d : Array Int} (h : ¬ 2 * root + 1 < hi) : siftDown ltInt hi first root d = d := by
  rw [siftDown, dif_pos (by omega)]
theorem sift_left {hi first root : Nat} {d : Array Int} (h : 2 * root + 1 < hi) (hc0 : ¬ (2 * root + 1 + 1 < hi ∧ ltInt d[first + 2 * root + 1]! d[first + 2 * root + 2]! = true)) (hl : ltInt d[first + root]! d[first + 2 * root + 1]! = true) :
    siftDown ltInt hi first root d = siftDown ltInt hi first (2 * root + 1) (swp d (first + root) (first + 2 * root + 1)) := by
  have hc : ¬ (2 * root + 1 + 1 < hi ∧ ltInt d[first + (2 * root + 1)]! d[first + (2 * root + 1) + 1]! = true) := hc0
  rw [siftDown, dif_neg (by omega), if_neg (by simpa using hc), if_neg (by rw [show first + (2 * root + 1) = first + 2 * root + 1 from rfl]; simp [hl])]
  rfl
theorem sift_left_end {hi first root : Nat} {d : Array Int} (h : 2 * root + 1 < hi) (hc0 : ¬ (2 * root + 1 + 1 < hi ∧ ltInt d[first + 2 * root + 1]! d[first + 2 * root + 2]! = true)) (hl : ltInt d[first + root]! d[first + 2 * root + 1]! = false) :
    siftDown ltInt hi first root d = d := by
  have hc : ¬ (2 * root + 1 + 1 < hi ∧ ltInt d[first + (2 * root + 1)]! d[first + (2 * root + 1) + 1]! = true) := hc0
  rw [siftDown, dif_neg (by omega), if_neg (by simpa using hc), if_pos (by rw [show first + (2 * root + 1) = first + 2 * root + 1 from rfl]; simp [hl])]
theorem sift_right {hi first root : Nat} {d : Array Int} (h : 2 * root + 1 + 1 < hi) (hc : ltInt d[first + 2 * root + 1]! d[first + 2 * root + 2]! = true) (hl : ltInt d[first + root]! d[first + 2 * root + 2]! = true) :
    siftDown ltInt hi first root d = siftDown ltInt hi first (2 * root + 2) (swp d (first + root) (first + 2 * root + 2)) := by
  have hc' : ltInt d[first + (2 * root + 1)]! d[first + (2 * root + 1) + 1]! = true := hc
  have hl' : ltInt d[first + root]! d[first + (2 * root + 2)]! = true := hl
  rw [siftDown, dif_neg (by omega), if_pos (by rw [hc']; simp; omega), if_neg (by rw [hl']; simp), dif_pos (by omega)]
  rfl
theorem sift_right_end {hi first root : Nat} {d : Array Int} (h : 2 * root + 1 + 1 < hi) (hc : ltInt d[first + 2 * root + 1]! d[first + 2 * root + 2]! = true) (hl : ltInt d[first + root]! d[first + 2 * root + 2]! = false) :
    siftDown ltInt hi first root d = d := by
  have hc' : ltInt d[first + (2 * root + 1)]! d[first + (2 * root + 1) + 1]! = true := hc
  have hl' : ltInt d[first + root]! d[first + (2 * root + 2)]! = false := hl
  rw [siftDown, dif_neg (by omega), if_pos (by rw [hc']; simp; omega), if_pos (by rw [hl']; rfl)]

set_option maxHeartbeats 4000000 in
set_option maxRecDepth 100000 in
theorem sift_rune (blk off cap root hi first : Nat) (d : Array Int) (w : World) (hH : Holds (Value.int .i32) w blk off d) (hb : first + hi ≤ d.size) (hr : root ≤ 50) (hsz : d.size < 50) :
    Calls Tryz.prog 166 #[.slice (some ⟨blk, off, none⟩) d.size cap, .int .i64 root, .int .i64 hi, .int .i64 first] w fun e w' => e = .returned (.tuple #[]) ∧ RowH w blk off (siftDown ltInt hi first root d) w' := by
  have h0 := RowH.refl hH
  have H0 : Hid (RowH w blk off d w) := h0
  clear h0 hH
  go_enter Tryz.func166, Tryz.ntmps166
  go_wp2
  go_loopw [8] (fun vi wr => ∃ (k : Nat) (dk : Array Int), vi = .int .i64 k ∧ k ≤ 50 ∧ dk.size = d.size ∧ Hid (RowH w blk off dk wr) ∧ Hid (siftDown ltInt hi first k dk = siftDown ltInt hi first root d)) (fun vi _ => 50 - (intOf vi).toNat)
  case atStart => exact ⟨root, d, rfl, hr, rfl, H0, rfl⟩
  case round =>
    obtain ⟨k, dk, rfl, hk, hsk, hR, hO⟩ := hrel
    obtain ⟨G, hcw, hfw, hG⟩ := hR.out.cells
    rw [hsk] at hcw hfw
    have hfk : first + k < 1152921504606846976 := by omega
    by_cases hch : 2 * k + 1 < hi
    · have hchi : ¬ (hi : Int) ≤ 2 * (k : Int) + 1 := by omega
      by_cases hch2 : 2 * k + 1 + 1 < hi
      · have hch2i : 2 * (k : Int) + 1 + 1 < (hi : Int) := by omega
        go_wp2_with fail
        go_big_quiet (first | (go_at_call 151; refine Calls.quiet_of_same (less_rune _ _ _)))
        go_wp2_with fail
        · have hc : ltInt (G (first + 2 * k + 1)) (G (first + 2 * k + 2)) = true := by assumption
          rw [hG.out, hG.out] at hc
          revert nq; intro nq1
          have hcw2 : ∀ t, t < d.size → (wr.drewN nq1).cell? ⟨blk, off + t, none⟩ = some (.int .i32 (G t)) := hcw
          have hfw2 : ∀ t, t < d.size → (wr.drewN nq1).frozen? ⟨blk, off + t, none⟩ = false := hfw
          have hR2 : Hid (RowH w blk off dk (wr.drewN nq1)) := hR.out.draws nq1
          clear hcw hfw hR
          generalize wr.drewN nq1 = w2 at hcw2 hfw2 hR2 ⊢
          go_big_quiet (first | (go_at_call 151; refine Calls.quiet_of_same (less_rune _ _ _)))
          go_wp2_with fail
          · have hs : ltInt (G (first + k)) (G (first + 2 * k + 2)) = false := by
              have : (!ltInt (G (first + k)) (G (first + 2 * k + 2))) = true := by assumption
              simpa using this
            (try simp only [Exit.inBlock, Exit.then])
            refine bodyPost_ret (results_none rfl _ _ _) rfl ?_
            refine ⟨rfl, ?_⟩
            have h := hO.out
            rw [hG.out, hG.out] at hs
            rw [sift_right_end hch2 hc hs] at h
            rw [← h]
            exact hR2.out.draws nq
          · have hs : ltInt (G (first + k)) (G (first + 2 * k + 2)) = true := by
              have : (!ltInt (G (first + k)) (G (first + 2 * k + 2))) = false := by assumption
              simpa using this
            have hcw3 : ∀ t, t < d.size → (w2.drewN nq).cell? ⟨blk, off + t, none⟩ = some (.int .i32 (G t)) := hcw2
            have hfw3 : ∀ t, t < d.size → (w2.drewN nq).frozen? ⟨blk, off + t, none⟩ = false := hfw2
            have hR3 : Hid (RowH w blk off dk (w2.drewN nq)) := hR2.out.draws nq
            clear hcw2 hfw2 hR2
            generalize w2.drewN nq = w3 at hcw3 hfw3 hR3 ⊢
            go_region
            go_wp2
            go_roundw
            case rel =>
              rw [hG.out, hG.out] at hs
              refine ⟨2 * k + 2, swp dk (first + k) (first + (2 * k + 2)), by first | rfl | (congr 1 <;> omega), by omega, by rw [size_swp]; exact hsk, ?_, ?_⟩
              · rw [hG.out, hG.out]
                exact (hR3.out.draws 1).swap (first + k) (first + (2 * k + 2)) (by omega) (by omega)
              · show siftDown ltInt hi first (2 * k + 2) (swp dk (first + k) (first + (2 * k + 2))) = _
                rw [← hO.out, sift_right hch2 hc hs]
                rfl
            case measure => simp [intOf]; omega
        · have hc : ltInt (G (first + 2 * k + 1)) (G (first + 2 * k + 2)) = false := by assumption
          rw [hG.out, hG.out] at hc
          have hcn : ¬ (2 * k + 1 + 1 < hi ∧ ltInt dk[first + 2 * k + 1]! dk[first + 2 * k + 2]! = true) := fun h => by rw [hc] at h; cases h.2
          revert nq; intro nq1
          have hcw2 : ∀ t, t < d.size → (wr.drewN nq1).cell? ⟨blk, off + t, none⟩ = some (.int .i32 (G t)) := hcw
          have hfw2 : ∀ t, t < d.size → (wr.drewN nq1).frozen? ⟨blk, off + t, none⟩ = false := hfw
          have hR2 : Hid (RowH w blk off dk (wr.drewN nq1)) := hR.out.draws nq1
          clear hcw hfw hR
          generalize wr.drewN nq1 = w2 at hcw2 hfw2 hR2 ⊢
          go_big_quiet (first | (go_at_call 151; refine Calls.quiet_of_same (less_rune _ _ _)))
          go_wp2_with fail
          · have hs : ltInt (G (first + k)) (G (first + 2 * k + 1)) = false := by
              have : (!ltInt (G (first + k)) (G (first + 2 * k + 1))) = true := by assumption
              simpa using this
            (try simp only [Exit.inBlock, Exit.then])
            refine bodyPost_ret (results_none rfl _ _ _) rfl ?_
            refine ⟨rfl, ?_⟩
            have h := hO.out
            rw [hG.out, hG.out] at hs
            rw [sift_left_end hch hcn hs] at h
            rw [← h]
            exact hR2.out.draws nq
          · have hs : ltInt (G (first + k)) (G (first + 2 * k + 1)) = true := by
              have : (!ltInt (G (first + k)) (G (first + 2 * k + 1))) = false := by assumption
              simpa using this
            have hcw3 : ∀ t, t < d.size → (w2.drewN nq).cell? ⟨blk, off + t, none⟩ = some (.int .i32 (G t)) := hcw2
            have hfw3 : ∀ t, t < d.size → (w2.drewN nq).frozen? ⟨blk, off + t, none⟩ = false := hfw2
            have hR3 : Hid (RowH w blk off dk (w2.drewN nq)) := hR2.out.draws nq
            clear hcw2 hfw2 hR2
            generalize w2.drewN nq = w3 at hcw3 hfw3 hR3 ⊢
            go_region
            go_wp2
            go_roundw
            case rel =>
              rw [hG.out, hG.out] at hs
              refine ⟨2 * k + 1, swp dk (first + k) (first + (2 * k + 1)), by first | rfl | (congr 1 <;> omega), by omega, by rw [size_swp]; exact hsk, ?_, ?_⟩
              · rw [hG.out, hG.out]
                exact (hR3.out.draws 1).swap (first + k) (first + (2 * k + 1)) (by omega) (by omega)
              · show siftDown ltInt hi first (2 * k + 1) (swp dk (first + k) (first + (2 * k + 1))) = _
                rw [← hO.out, sift_left hch hcn hs]
                rfl
            case measure => simp [intOf]; omega
      · have hch2i : decide (2 * (k : Int) + 1 + 1 < (hi : Int)) = false := decide_eq_false (by omega)
        have hcn : ¬ (2 * k + 1 + 1 < hi ∧ ltInt dk[first + 2 * k + 1]! dk[first + 2 * k + 2]! = true) := fun h => hch2 h.1
        go_wp2_with fail
        go_big_quiet (first | (go_at_call 151; refine Calls.quiet_of_same (less_rune _ _ _)))
        go_wp2_with fail
        revert nq; intro nq1
        have hcw2 : ∀ t, t < d.size → (wr.drewN nq1).cell? ⟨blk, off + t, none⟩ = some (.int .i32 (G t)) := hcw
        have hfw2 : ∀ t, t < d.size → (wr.drewN nq1).frozen? ⟨blk, off + t, none⟩ = false := hfw
        have hR2 : Hid (RowH w blk off dk (wr.drewN nq1)) := hR.out.draws nq1
        clear hcw hfw hR
        generalize wr.drewN nq1 = w2 at hcw2 hfw2 hR2 ⊢
        go_big_quiet (first | (go_at_call 151; refine Calls.quiet_of_same (less_rune _ _ _)))
        go_wp2_with fail
        · have hs : ltInt (G (first + k)) (G (first + 2 * k + 1)) = false := by
            have : (!ltInt (G (first + k)) (G (first + 2 * k + 1))) = true := by assumption
            simpa using this
          (try simp only [Exit.inBlock, Exit.then])
          refine bodyPost_ret (results_none rfl _ _ _) rfl ?_
          refine ⟨rfl, ?_⟩
          have h := hO.out
          rw [hG.out, hG.out] at hs
          rw [sift_left_end hch hcn hs] at h
          rw [← h]
          exact hR2.out.draws nq
        · have hs : ltInt (G (first + k)) (G (first + 2 * k + 1)) = true := by
            have : (!ltInt (G (first + k)) (G (first + 2 * k + 1))) = false := by assumption
            simpa using this
          have hcw3 : ∀ t, t < d.size → (w2.drewN nq).cell? ⟨blk, off + t, none⟩ = some (.int .i32 (G t)) := hcw2
          have hfw3 : ∀ t, t < d.size → (w2.drewN nq).frozen? ⟨blk, off + t, none⟩ = false := hfw2
          have hR3 : Hid (RowH w blk off dk (w2.drewN nq)) := hR2.out.draws nq
          clear hcw2 hfw2 hR2
          generalize w2.drewN nq = w3 at hcw3 hfw3 hR3 ⊢
          go_region
          go_wp2
          go_roundw
          case rel =>
            rw [hG.out, hG.out] at hs
            refine ⟨2 * k + 1, swp dk (first + k) (first + (2 * k + 1)), by first | rfl | (congr 1 <;> omega), by omega, by rw [size_swp]; exact hsk, ?_, ?_⟩
            · rw [hG.out, hG.out]
              exact (hR3.out.draws 1).swap (first + k) (first + (2 * k + 1)) (by omega) (by omega)
            · show siftDown ltInt hi first (2 * k + 1) (swp dk (first + k) (first + (2 * k + 1))) = _
              rw [← hO.out, sift_left hch hcn hs]
              rfl
          case measure => simp [intOf]; omega
    · have hchi : (hi : Int) ≤ 2 * (k : Int) + 1 := by omega
      go_wp2
      go_end0
      refine ⟨rfl, ?_⟩
      have h := hO.out
      rw [sift_end hch] at h
      rw [← h]
      exact hR.out

end Go.Proofs.YtdfnngehhiociaaGreatDoor

namespace Go.Proofs.YtdfnngehhiociaaGreatDoor
open Go.RowKit Go.Sort

theorem sift_size (hi first root : Nat) (d : Array Int) : (siftDown ltInt hi first root d).size = d.size := by
  induction h : hi - root using Nat.strongRecOn generalizing root d with
  | _ n ih =>
    by_cases h1 : 2 * root + 1 < hi
    · by_cases h2 : 2 * root + 1 + 1 < hi ∧ ltInt d[first + 2 * root + 1]! d[first + 2 * root + 2]! = true
      · cases h3 : ltInt d[first + root]! d[first + 2 * root + 2]! with
        | true => rw [sift_right h2.1 h2.2 h3, ih _ (by omega) _ _ rfl, size_swp]
        | false => rw [sift_right_end h2.1 h2.2 h3]
      · cases h3 : ltInt d[first + root]! d[first + 2 * root + 1]! with
        | true => rw [sift_left h1 h2 h3, ih _ (by omega) _ _ rfl, size_swp]
        | false => rw [sift_left_end h1 h2 h3]
    · rw [sift_end h1]

set_option maxHeartbeats 400000 in
set_option maxRecDepth 100000 in
theorem heap_rune (blk off cap a b : Nat) (d : Array Int) (w : World) (hH : Holds (Value.int .i32) w blk off d) (hab : a < b) (hb : b ≤ d.size) (hsz : d.size < 50) :
    Calls Tryz.prog 146 #[.slice (some ⟨blk, off, none⟩) d.size cap, .int .i64 a, .int .i64 b] w fun e w' => e = .returned (.tuple #[]) ∧ RowH w blk off (heapSort ltInt d a b) w' := by
  have h0 := RowH.refl hH
  have H0 : Hid (RowH w blk off d w) := h0
  clear h0 hH
  have hh : heapSort ltInt d a b = heapPop ltInt a (b - a) (heapBuild ltInt (b - a) a ((b - a - 1) / 2 + 1) d) := rfl
  rw [hh]
  clear hh
  obtain ⟨hi, hhi⟩ : ∃ hi, hi = b - a := ⟨_, rfl⟩
  rw [← hhi]
  have e1 : (hi : Int) = (b : Int) - (a : Int) := by omega
  go_enter Tryz.func146, Tryz.ntmps146
  go_wp2
  go_loopw [9] (fun vi wr => ∃ (k : Nat) (dk : Array Int), vi = .int .i64 ((k : Int) - 1) ∧ k ≤ hi ∧ dk.size = d.size ∧ Hid (RowH w blk off dk wr) ∧ Hid (heapBuild ltInt hi a k dk = heapBuild ltInt hi a ((hi - 1) / 2 + 1) d)) (fun vi _ => (intOf vi + 1).toNat)
  case atStart => exact ⟨(hi - 1) / 2 + 1, d, by congr 1; omega, by omega, rfl, H0, rfl⟩
  case round =>
    obtain ⟨k, dk, rfl, hk, hsk, hR, hO⟩ := hrel
    by_cases hk0 : 1 ≤ k
    · obtain ⟨k, rfl⟩ : ∃ j, k = j + 1 := ⟨k - 1, by omega⟩
      have hc := sift_rune blk off cap k hi a dk wr hR.out.holds (by omega) (by omega) (by omega)
      rw [hsk, e1] at hc
      have HC : Hid _ := hc
      clear hc
      have e2 : ((k + 1 : Nat) : Int) - 1 = (k : Int) := by omega
      rw [e2]
      have hki : (0 : Int) ≤ (k : Int) := by omega
      go_wp2_with fail
      refine Calls.mono HC.out ?_
      rintro e w1 ⟨rfl, hR1⟩
      have HR1 : Hid (RowH w blk off (siftDown ltInt hi a k dk) w1) := hR.out.trans hR1
      clear hR1
      go_wp2_with fail
      go_roundw
      case rel => exact ⟨k, _, rfl, by omega, by rw [sift_size]; exact hsk, HR1, hO⟩
      case measure => simp [intOf]
    · obtain rfl : k = 0 := by omega
      have hB : Hid (dk = heapBuild ltInt hi a ((hi - 1) / 2 + 1) d) := hO.out
      clear hO
      have hneg : ¬ (0 : Int) ≤ ((0 : Nat) : Int) - 1 := by omega
      generalize ((0 : Nat) : Int) - 1 = v at hneg ⊢
      go_wp2
      go_loopw [10] (fun vi wr2 => ∃ (j : Nat) (dj : Array Int), vi = .int .i64 ((j : Int) - 1) ∧ j ≤ hi ∧ dj.size = d.size ∧ Hid (RowH w blk off dj wr2) ∧ Hid (heapPop ltInt a j dj = heapPop ltInt a hi dk)) (fun vi _ => (intOf vi + 1).toNat)
      case atStart => exact ⟨hi, dk, by congr 1; omega, Nat.le_refl _, hsk, hR, rfl⟩
      case round =>
        clear hR
        obtain ⟨j, dj, rfl, hj, hsj, hR, hO⟩ := hrel
        by_cases hj0 : 1 ≤ j
        · obtain ⟨j, rfl⟩ : ∃ i, j = i + 1 := ⟨j - 1, by omega⟩
          have e2 : ((j + 1 : Nat) : Int) - 1 = (j : Int) := by omega
          rw [e2]
          obtain ⟨G, hcw, hfw, hG⟩ := hR.out.cells
          rw [hsj] at hcw hfw
          have HC : ∀ W, Hid (RowH w blk off (swp dj a (a + j)) W) → Hid (Calls Tryz.prog 166 #[.slice (some ⟨blk, off, none⟩) d.size cap, .int .i64 0, .int .i64 j, .int .i64 a] W fun e w' => e = .returned (.tuple #[]) ∧ RowH W blk off (siftDown ltInt j a 0 (swp dj a (a + j))) w') := fun W hW => by
            have hc := sift_rune blk off cap 0 j a (swp dj a (a + j)) W hW.out.holds (by rw [size_swp]; omega) (by omega) (by rw [size_swp]; omega)
            rw [size_swp, hsj] at hc
            exact hc
          by_cases hj1 : j = 0
          · subst hj1
            go_wp2
            go_region
            have HW : Hid (RowH w blk off (swp dj a (a + 0)) ((wr.setCell ⟨blk, off + a, none⟩ (.int .i32 (G a))).setCell ⟨blk, off + a, none⟩ (.int .i32 (G a))).drew) := by
              have h := (hR.out.swap a (a + 0) (by omega) (by omega)).draws 1
              rw [hG.out]
              exact h
            generalize ((wr.setCell ⟨blk, off + a, none⟩ (.int .i32 (G a))).setCell ⟨blk, off + a, none⟩ (.int .i32 (G a))).drew = w1 at HW ⊢
            go_wp2_with fail
            refine Calls.mono (HC w1 HW).out ?_
            rintro e w2 ⟨rfl, hR2⟩
            have HR2 : Hid (RowH w blk off (siftDown ltInt 0 a 0 (swp dj a (a + 0))) w2) := HW.out.trans hR2
            clear hR2
            go_wp2_with fail
            go_roundw
            case rel => exact ⟨0, _, rfl, by omega, by rw [sift_size, size_swp]; exact hsj, HR2, hO⟩
            case measure => simp [intOf]
          · go_wp2
            go_region
            have HW : Hid (RowH w blk off (swp dj a (a + j)) ((wr.setCell ⟨blk, off + a, none⟩ (.int .i32 (G (a + j)))).setCell ⟨blk, off + (a + j), none⟩ (.int .i32 (G a))).drew) := by
              have h := (hR.out.swap a (a + j) (by omega) (by omega)).draws 1
              rw [hG.out, hG.out]
              exact h
            generalize ((wr.setCell ⟨blk, off + a, none⟩ (.int .i32 (G (a + j)))).setCell ⟨blk, off + (a + j), none⟩ (.int .i32 (G a))).drew = w1 at HW ⊢
            go_wp2_with fail
            refine Calls.mono (HC w1 HW).out ?_
            rintro e w2 ⟨rfl, hR2⟩
            have HR2 : Hid (RowH w blk off (siftDown ltInt j a 0 (swp dj a (a + j))) w2) := HW.out.trans hR2
            clear hR2
            go_wp2_with fail
            go_roundw
            case rel => exact ⟨j, _, rfl, by omega, by rw [sift_size, size_swp]; exact hsj, HR2, hO⟩
            case measure => simp [intOf]
        · obtain rfl : j = 0 := by omega
          go_wp2
          go_end0
          refine ⟨rfl, ?_⟩
          have h : dj = _ := hO.out
          rw [← hB.out, ← h]
          exact hR.out

end Go.Proofs.YtdfnngehhiociaaGreatDoor

namespace Go.Proofs.YtdfnngehhiociaaGreatDoor
open Go.RowKit Go.Sort

theorem lt_cell {w : World} {b k : Nat} {v : Value} (h : w.cell? ⟨b, k, none⟩ = some v) : b < w.heap.size := by
  obtain ⟨c, e, fr, hb, _⟩ := cells_of_cell? h
  exact (Array.getElem?_eq_some_iff.1 hb).1

theorem Holds_kept {w w' : World} {row : Option Nat} {blk off : Nat} {d : Array Int} (h : Holds (Value.int .i32) w blk off d) (hg : w.grownBy w' row) (hne : some blk ≠ row) : Holds (Value.int .i32) w' blk off d := fun j hj =>
  ⟨hg.cell (h j hj).1 hne, by rw [hg.frozen_far _ (lt_cell (h j hj).1) hne]; exact (h j hj).2⟩

/-- A number in a cell of its own. -/
def NumAt (w : World) (sb : Nat) (s : Nat) : Prop := w.cell? ⟨sb, 0, none⟩ = some (.int .i64 s) ∧ w.frozen? ⟨sb, 0, none⟩ = false

set_option maxHeartbeats 1000000 in
set_option maxRecDepth 100000 in
theorem order2_rune (blk off cap a b sb s : Nat) (d : Array Int) (w : World) (hH : Holds (Value.int .i32) w blk off d) (ha : a < d.size) (hb : b < d.size) (_hsz : d.size < 50) (hN : NumAt w sb s) (hs : s < 100) :
    Calls Tryz.prog 175 #[.slice (some ⟨blk, off, none⟩) d.size cap, .int .i64 a, .int .i64 b, .pointer (some ⟨sb, 0, none⟩)] w fun e w' => ∃ x y s' : Nat, e = .returned (.tuple #[.int .i64 x, .int .i64 y]) ∧ ((x = a ∧ y = b) ∨ (x = b ∧ y = a)) ∧ s' ≤ s + 1 ∧ NumAt w' sb s' ∧ w.grownBy w' (some sb) := by
  obtain ⟨G, hcw, hfw, hG⟩ := (RowH.refl hH).cells
  obtain ⟨hc, hf⟩ := hN
  clear hG hH
  have hsi : (s : Int) < 100 := by omega
  go_enter Tryz.func175, Tryz.ntmps175
  go_wp2
  go_quiet (first | (go_at_call 151; refine Calls.quiet_of_same (less_rune _ _ _)))
  have hc2 : (w.drewN nq).cell? ⟨sb, 0, none⟩ = some (.int .i64 s) := hc
  have hf2 : (w.drewN nq).frozen? ⟨sb, 0, none⟩ = false := hf
  have hg2 : w.grownBy (w.drewN nq) (some sb) := grown_draws w nq _
  generalize w.drewN nq = w2 at hc2 hf2 hg2 ⊢
  go_wp2
  · go_ret2
    refine ⟨b, a, s + 1, rfl, Or.inr ⟨rfl, rfl⟩, Nat.le_refl _, ⟨?_, ?_⟩, hg2.trans (grown_set _ _ _ _)⟩
    · rw [World.cell?_setCell_same _ _ _ hc2]
      congr 2
    · rw [World.frozen?_setCell]; exact hf2
  · go_ret2
    exact ⟨a, b, s, rfl, Or.inl ⟨rfl, rfl⟩, by omega, ⟨hc2, hf2⟩, hg2⟩

set_option maxHeartbeats 1000000 in
set_option maxRecDepth 100000 in
theorem median_rune (blk off cap a b c sb s : Nat) (d : Array Int) (w : World) (hH : Holds (Value.int .i32) w blk off d) (ha : a < d.size) (hb : b < d.size) (hc : c < d.size) (hsz : d.size < 50) (hne : sb ≠ blk) (hN : NumAt w sb s) (hs : s < 90) :
    Calls Tryz.prog 168 #[.slice (some ⟨blk, off, none⟩) d.size cap, .int .i64 a, .int .i64 b, .int .i64 c, .pointer (some ⟨sb, 0, none⟩)] w fun e w' => ∃ x s' : Nat, e = .returned (.int .i64 x) ∧ (x = a ∨ x = b ∨ x = c) ∧ s' ≤ s + 3 ∧ NumAt w' sb s' ∧ w.grownBy w' (some sb) := by
  have hbs : some blk ≠ some sb := fun e => hne (Option.some.inj e).symm
  have H1 : Hid _ := order2_rune blk off cap a b sb s d w hH ha hb hsz hN (by omega)
  go_enter Tryz.func168, Tryz.ntmps168
  go_wp2_with fail
  refine Calls.mono H1.out ?_
  rintro e w1 ⟨x1, y1, s1, rfl, hxy1, hs1, hN1, hg1⟩
  have hx1 : x1 < d.size := by omega
  have hy1 : y1 < d.size := by omega
  have H2 : Hid _ := order2_rune blk off cap y1 c sb s1 d w1 (Holds_kept hH hg1 hbs) hy1 hc hsz hN1 (by omega)
  clear hN H1
  go_wp2_with fail
  refine Calls.mono H2.out ?_
  rintro e w2 ⟨x2, y2, s2, rfl, hxy2, hs2, hN2, hg2⟩
  have hx2 : x2 < d.size := by omega
  have H3 : Hid _ := order2_rune blk off cap x1 x2 sb s2 d w2 (Holds_kept hH (hg1.trans hg2) hbs) hx1 hx2 hsz hN2 (by omega)
  clear hN1 H2
  go_wp2_with fail
  refine Calls.mono H3.out ?_
  rintro e w3 ⟨x3, y3, s3, rfl, hxy3, hs3, hN3, hg3⟩
  clear hN2 H3
  go_wp2_with fail
  go_ret
  exact ⟨y3, s3, rfl, by omega, by omega, hN3, (hg1.trans hg2).trans hg3⟩

set_option maxHeartbeats 2000000 in
set_option maxRecDepth 100000 in
/-- The pivot lies within; at so few elements it is never said that they fall. -/
theorem pivot_rune (blk off cap a b : Nat) (d : Array Int) (w : World) (hH : Holds (Value.int .i32) w blk off d) (hab : a + 8 ≤ b) (hb : b ≤ d.size) (hsz : d.size < 50) :
    Calls Tryz.prog 148 #[.slice (some ⟨blk, off, none⟩) d.size cap, .int .i64 a, .int .i64 b] w fun e w' => ∃ (x : Nat) (h : Int), e = .returned (.tuple #[.int .i64 x, .int .i64 h]) ∧ a < x ∧ x < b ∧ (h = 0 ∨ h = 1) ∧ w.grownBy w' none := by
  have hblk := lt_cell (hH 0 (by omega)).1
  have hga : w.grownBy (w.alloc (.cells #[.int .i64 0] 3)) none := World.grownBy_alloc _ _ _
  have hN : NumAt (w.alloc (.cells #[.int .i64 0] 3)) w.heap.size 0 := ⟨by go_simp, by go_simp⟩
  have hc8 : (8 : Int) ≤ (b : Int) - (a : Int) := by omega
  have hc50 : ¬ (50 : Int) ≤ (b : Int) - (a : Int) := by omega
  obtain ⟨i, hi⟩ : ∃ i, i = a + (b - a) / 4 := ⟨_, rfl⟩
  obtain ⟨j, hj⟩ : ∃ j, j = a + (b - a) / 4 * 2 := ⟨_, rfl⟩
  obtain ⟨k, hk⟩ : ∃ k, k = a + (b - a) / 4 * 3 := ⟨_, rfl⟩
  have ei : (a : Int) + ((b : Int) - (a : Int)) / 4 = (i : Int) := by omega
  have ej : (a : Int) + ((b : Int) - (a : Int)) / 4 * 2 = (j : Int) := by omega
  have ek : (a : Int) + ((b : Int) - (a : Int)) / 4 * 3 = (k : Int) := by omega
  have bi : a < i ∧ i < b := by omega
  have bj : a < j ∧ j < b := by omega
  have bk : a < k ∧ k < b := by omega
  have H1 : Hid _ := median_rune blk off cap i j k w.heap.size 0 d _ (Holds_kept hH hga (by simp)) (by omega) (by omega) (by omega) hsz (by omega) hN (by omega)
  clear hN hi hj hk
  go_enter Tryz.func148, Tryz.ntmps148
  go_wp2_with fail
  refine Calls.mono H1.out ?_
  rintro e w1 ⟨x, s1, rfl, hx, hs1, ⟨hc1, hf1⟩, hg1⟩
  have hxr : a < x ∧ x < b := by omega
  have hg : w.grownBy w1 none := hga.andThen hg1 (fun q hq => Or.inl (by cases hq; exact Nat.le_refl _))
  clear H1 hf1 ei ej ek
  by_cases h0 : s1 = 0
  · subst h0
    go_wp2
    go_ret2
    exact ⟨x, 1, rfl, hxr.1, hxr.2, Or.inr rfl, hg⟩
  · have e0 : ((s1 : Int) == 0) = false := by simpa using h0
    have e12 : ((s1 : Int) == 12) = false := by
      have : ¬ (s1 : Int) = 12 := by omega
      simpa using this
    go_wp2
    go_ret2
    exact ⟨x, 0, rfl, hxr.1, hxr.2, Or.inl rfl, hg⟩

end Go.Proofs.YtdfnngehhiociaaGreatDoor

namespace Go.Proofs.YtdfnngehhiociaaGreatDoor
open Go.RowKit Go.Sort

theorem next_rand (rb X : Nat) (hX : X < 18446744073709551616) (w : World) (hc : w.cell? ⟨rb, 0, none⟩ = some (.int .u64 X)) (hf : w.frozen? ⟨rb, 0, none⟩ = false) :
    Calls Tryz.prog 123 #[.pointer (some ⟨rb, 0, none⟩)] w fun e w' => e = .returned (.int .u64 (xorNextN X : Nat)) ∧ w' = (w.setCell ⟨rb, 0, none⟩ (.int .u64 (xorNextN X : Nat))).drewN 3 :=
  AnyF.xorshift_Next (ρ := Tryz.sort52_ren) { Tryz.sort52 with } rb 0 X hX w hc hf

theorem next_power (n : Nat) (hn : n < 4611686018427387904) (w : World) : Calls Tryz.prog 122 #[.int .i64 n] w fun e w' => e = .returned (.int .u64 ((1 <<< bitsLen n : Nat) : Int)) ∧ w' = w :=
  AnyF.nextPowerOfTwo (ρ := Tryz.sort52_ren) { Tryz.sort52 with } n hn w

theorem power_le (n : Nat) (hn : 0 < n) : 1 ≤ 1 <<< bitsLen n ∧ 1 <<< bitsLen n ≤ 2 * n := by
  unfold bitsLen
  rw [if_neg (by omega), Nat.one_shiftLeft, Nat.pow_succ]
  have h1 := Nat.log2_self_le (n := n) (by omega)
  have h2 : 0 < 2 ^ n.log2 := Nat.pow_pos (by omega)
  omega

theorem RowH.other {w0 w : World} {blk off rb : Nat} {d : Array Int} (h : RowH w0 blk off d w) (hne : rb ≠ blk) (hrb : w0.heap.size ≤ rb) (v : Value) : RowH w0 blk off d (w.setCell ⟨rb, 0, none⟩ v) :=
  ⟨Holds_kept h.holds (grown_set w rb 0 v) (fun e => hne (Option.some.inj e).symm), h.grown.andThen (grown_set w rb 0 v) (fun q hq => Or.inl (by cases hq; exact hrb)), fun c e f hc => by
    obtain ⟨c1, h1⟩ := h.typ c e f hc
    exact ⟨c1, ((grown_set w rb 0 v).block blk (Array.getElem?_eq_some_iff.1 h1).1 (fun e => hne (Option.some.inj e).symm)).trans h1⟩⟩
theorem RowH.alloc {w0 w : World} {blk off : Nat} {d : Array Int} (h : RowH w0 blk off d w) (o : Obj) : RowH w0 blk off d (w.alloc o) :=
  ⟨Holds_kept h.holds (World.grownBy_alloc w o none) (by simp), h.grown.andThen (World.grownBy_alloc w o none) (fun q hq => by cases hq), fun c e f hc => by
    obtain ⟨c1, h1⟩ := h.typ c e f hc
    exact ⟨c1, ((World.grownBy_alloc w o none).block blk (Array.getElem?_eq_some_iff.1 h1).1 (by simp)).trans h1⟩⟩

/-- The number that is drawn on lies there. -/
def RandAt (w : World) (rb R : Nat) : Prop := w.cell? ⟨rb, 0, none⟩ = some (.int .u64 R) ∧ w.frozen? ⟨rb, 0, none⟩ = false

theorem RandAt.rows {w : World} {rb R blk k l : Nat} {u v : Value} (h : RandAt w rb R) (hne : rb ≠ blk) : RandAt (((w.setCell ⟨blk, k, none⟩ u).setCell ⟨blk, l, none⟩ v).drew) rb R := by
  have h1 : some rb ≠ some blk := fun e => hne (Option.some.inj e)
  have g := (grown_set w blk k u).trans (grown_set _ blk l v)
  exact ⟨g.cell h.1 h1, by
    have := g.frozen_far ⟨rb, 0, none⟩ (lt_cell h.1) h1
    exact this.trans h.2⟩

set_option maxHeartbeats 4000000 in
set_option maxRecDepth 100000 in
theorem break_rune (blk off cap a b : Nat) (d : Array Int) (w : World) (hH : Holds (Value.int .i32) w blk off d) (hab : a + 8 ≤ b) (hb : b ≤ d.size) (hsz : d.size < 50) :
    Calls Tryz.prog 147 #[.slice (some ⟨blk, off, none⟩) d.size cap, .int .i64 a, .int .i64 b] w fun e w' => e = .returned (.tuple #[]) ∧ ∃ d', PermIn a b d d' ∧ RowH w blk off d' w' := by
  have hblk : blk < w.heap.size := lt_cell (hH 0 (by omega)).1
  obtain ⟨L, hL⟩ : ∃ L, L = b - a := ⟨_, rfl⟩
  have eL : (b : Int) - (a : Int) = (L : Int) := by omega
  have hpw := power_le L (by omega)
  have HP : Hid (∀ w, Calls Tryz.prog 122 #[.int .i64 L] w fun e w' => e = .returned (.int .u64 ((1 <<< bitsLen L : Nat) : Int)) ∧ w' = w) := next_power L (by omega)
  generalize 1 <<< bitsLen L = M at hpw HP
  obtain ⟨W1, hW1⟩ : ∃ W1, W1 = w.alloc (.cells #[.int .u64 L] 168) := ⟨_, rfl⟩
  have H0 : Hid (RowH w blk off d W1) := by rw [hW1]; exact (RowH.refl hH).alloc _
  have HR0 : Hid (RandAt W1 w.heap.size L) := by
    rw [hW1]
    exact ⟨by go_simp, by go_simp⟩
  have hL1 : a + L ≤ b := by omega
  have hL2 : b ≤ a + L := by omega
  clear hH hL
  have h8 : (8 : Int) ≤ (L : Int) := by omega
  have hc0 : W1 = w.alloc (.cells #[.int .u64 L] 168) := hW1
  go_enter Tryz.func147, Tryz.ntmps147
  go_wp2_with fail
  rw [← hW1]
  clear hW1 hc0
  refine (HP.out _).mono ?_
  rintro e w' ⟨rfl, rfl⟩
  go_wp2
  go_loopw [9] (fun vi wr => ∃ (t R : Nat) (dk : Array Int), vi = .int .i64 ((a + L / 4 * 2 - 1 + t : Nat) : Int) ∧ t ≤ 3 ∧ dk.size = d.size ∧ R < 18446744073709551616 ∧ Hid (PermIn a b d dk) ∧ Hid (RowH w blk off dk wr) ∧ Hid (RandAt wr w.heap.size R)) (fun vi _ => a + L / 4 * 2 + 3 - (intOf vi).toNat)
  case atStart => exact ⟨0, L, d, by congr 1; omega, by omega, rfl, by omega, permIn_refl _ _ _, H0, HR0⟩
  case round =>
    obtain ⟨t, R, dk, rfl, ht, hsk, hRlt, hP, hR, hA⟩ := hrel
    by_cases ht3 : t < 3
    · obtain ⟨hcB, hfB⟩ := hA.out
      have HN : Hid _ := next_rand w.heap.size R hRlt _ hcB hfB
      have lR' := xorNextN_lt R hRlt
      generalize xorNextN R = R' at HN lR'
      have HR1 : Hid (RowH w blk off dk ((wr.setCell ⟨w.heap.size, 0, none⟩ (.int .u64 (R' : Nat))).drewN 3)) := (hR.out.other (by omega) (Nat.le_refl _) _).draws 3
      have HA1 : Hid (RandAt ((wr.setCell ⟨w.heap.size, 0, none⟩ (.int .u64 (R' : Nat))).drewN 3) w.heap.size R') := by
        refine ⟨?_, ?_⟩
        · exact World.cell?_setCell_same _ _ _ hcB
        · have : (wr.setCell ⟨w.heap.size, 0, none⟩ (.int .u64 (R' : Nat))).frozen? ⟨w.heap.size, 0, none⟩ = false := by rw [World.frozen?_setCell]; exact hfB
          exact this
      obtain ⟨O, hO⟩ : ∃ O : Nat, O = R' &&& (M - 1) := ⟨_, rfl⟩
      have lO : O ≤ M - 1 := by rw [hO]; exact Nat.and_le_right
      have eAnd : bits .and .u64 (R' : Int) ((M : Int) - 1) = (O : Int) := by
        rw [show ((M : Int) - 1) = ((M - 1 : Nat) : Int) by omega, bits_and_u64_nat _ _ lR' (by omega), hO]
      clear hcB hfB hA hO hR
      obtain ⟨I, hI1, hI2⟩ : ∃ I : Nat, I ≤ a + L / 4 * 2 - 1 + t ∧ a + L / 4 * 2 - 1 + t ≤ I := ⟨_, Nat.le_refl _, Nat.le_refl _⟩
      have eI : ((a + L / 4 * 2 - 1 + t : Nat) : Int) = (I : Int) := by omega
      rw [eI]
      go_wp2_with fail
      refine Calls.mono HN.out ?_
      rintro e w' ⟨rfl, rfl⟩
      generalize (wr.setCell ⟨w.heap.size, 0, none⟩ (.int .u64 (R' : Nat))).drewN 3 = w2 at HR1 HA1 ⊢
      obtain ⟨G, hcw, hfw, hG⟩ := HR1.out.cells
      rw [hsk] at hcw hfw
      by_cases hLO : L ≤ O
      · have hLOi : (L : Int) ≤ (O : Int) := by omega
        by_cases hEq : I = a + (O - L)
        all_goals
          go_wp2
          go_region
          all_goals go_wp2
          go_roundw
          case rel =>
            refine ⟨t + 1, R', swp dk I (a + (O - L)), by first | rfl | (congr 1 <;> omega), by omega, by rw [size_swp]; exact hsk, lR', permIn_trans _ _ _ _ _ hP.out (swp_permIn dk a b I (a + (O - L)) (by omega) (by omega) (by omega) (by omega) (by omega)), ?_, ?_⟩
            · have h := (HR1.out.swap I (a + (O - L)) (by omega) (by omega)).draws 1
              simp only [← hG.out] at h
              first
                | exact h
                | (rw [hEq] at h ⊢; exact h)
            · exact HA1.out.rows (by omega)
          case measure => simp [intOf]; omega
      · have hLOi : ¬ (L : Int) ≤ (O : Int) := by omega
        by_cases hEq : I = a + O
        all_goals
          go_wp2
          go_region
          all_goals go_wp2
          go_roundw
          case rel =>
            refine ⟨t + 1, R', swp dk I (a + O), by first | rfl | (congr 1 <;> omega), by omega, by rw [size_swp]; exact hsk, lR', permIn_trans _ _ _ _ _ hP.out (swp_permIn dk a b I (a + O) (by omega) (by omega) (by omega) (by omega) (by omega)), ?_, ?_⟩
            · have h := (HR1.out.swap I (a + O) (by omega) (by omega)).draws 1
              simp only [← hG.out] at h
              first
                | exact h
                | (rw [hEq] at h ⊢; exact h)
            · exact HA1.out.rows (by omega)
          case measure => simp [intOf]; omega
    · obtain rfl : t = 3 := by omega
      go_wp2
      go_end0
      exact ⟨rfl, dk, hP.out, hR.out⟩

end Go.Proofs.YtdfnngehhiociaaGreatDoor

namespace Go.Proofs.YtdfnngehhiociaaGreatDoor
open Go.RowKit Go.Sort

set_option maxHeartbeats 2000000 in
set_option maxRecDepth 100000 in
/-- At so few elements nothing is shifted: it is only asked whether they rise. -/
theorem partial_rune (blk off cap a b : Nat) (d : Array Int) (w : World) (hH : Holds (Value.int .i32) w blk off d) (hab : a < b) (hb : b ≤ d.size) (hsz : d.size < 50) :
    Calls Tryz.prog 150 #[.slice (some ⟨blk, off, none⟩) d.size cap, .int .i64 a, .int .i64 b] w fun e w' => ∃ r : Bool, e = .returned (.bool r) ∧ (r = true → SortedIn ltInt a b d) ∧ RowH w blk off d w' := by
  have h0 := RowH.refl hH
  have H0 : Hid (RowH w blk off d w) := h0
  clear h0 hH
  have hlt50 : (b : Int) - (a : Int) < 50 := by omega
  go_enter Tryz.func150, Tryz.ntmps150
  go_wp2
  go_loopw [7, 8] (fun vi vj wr => vi = .int .i64 ((a + 1 : Nat) : Int) ∧ vj = .int .i64 0 ∧ Hid (RowH w blk off d wr)) (fun _ _ _ => 0)
  case atStart => exact ⟨by congr 1, rfl, H0⟩
  case round =>
    obtain ⟨rfl, rfl, hR⟩ := hrel
    go_wp2
    go_loopw [7] (fun vi wr2 => ∃ i : Nat, vi = .int .i64 i ∧ a < i ∧ i ≤ b ∧ Hid (SortedIn ltInt a i d) ∧ Hid (RowH w blk off d wr2)) (fun vi _ => b - (intOf vi).toNat)
    case atStart => exact ⟨a + 1, rfl, by omega, by omega, fun i j h1 h2 h3 => absurd h2 (by omega), hR⟩
    case round =>
      clear hR
      obtain ⟨i, rfl, hai, hib, hS, hR⟩ := hrel
      obtain ⟨G, hcw, hfw, hG⟩ := hR.out.cells
      by_cases hlt : i < b
      · have hlti : (i : Int) < (b : Int) := by omega
        go_wp2
        go_quiet (first | (go_at_call 151; refine Calls.quiet_of_same (less_rune _ _ _)))
        go_wp2
        · have hl : ltInt (G i) (G (i - 1)) = false := by
            have : (!ltInt (G i) (G (i - 1))) = true := by assumption
            simpa using this
          go_roundw
          case rel => exact ⟨i + 1, by go_num, by omega, by omega, SortedIn.snoc swo_ltInt hS.out (by rw [← hG.out, ← hG.out]; exact hl), hR.out.draws nq⟩
          case measure => simp [intOf]; omega
        · have heq : ((i : Int) == (b : Int)) = false := by
            have : ¬ (i : Int) = (b : Int) := by omega
            simpa using this
          go_wp2
          go_ret
          exact ⟨false, rfl, fun h => by (cases h), hR.out.draws nq⟩
      · obtain rfl : i = b := by omega
        have hlti : decide ((i : Int) < (i : Int)) = false := decide_eq_false (by omega)
        go_wp2
        go_quiet (first | (go_at_call 151; refine Calls.quiet_of_same (less_rune _ _ _)))
        go_wp2
        go_ret
        exact ⟨true, rfl, fun _ => hS.out, hR.out.draws nq⟩

end Go.Proofs.YtdfnngehhiociaaGreatDoor

namespace Go.Proofs.YtdfnngehhiociaaGreatDoor
open Go.RowKit Go.Sort

/-- What lies between is still to be parted: ahead of i all are less than the first one, behind j none. -/
structure Part (a b : Nat) (d0 : Array Int) (i j : Nat) (d : Array Int) : Prop where
  size : d.size = d0.size
  lo : a + 1 ≤ i
  mid : i ≤ j + 1
  hi : j < b
  perm : PermIn a b d0 d
  left : ∀ k, a < k → k < i → ltInt d[k]! d[a]! = true
  right : ∀ k, j < k → k < b → ltInt d[k]! d[a]! = false

theorem Part.start {a b : Nat} {d0 d : Array Int} (hab : a < b) (hs : d.size = d0.size) (hp : PermIn a b d0 d) : Part a b d0 (a + 1) (b - 1) d :=
  ⟨hs, Nat.le_refl _, by omega, by omega, hp, fun k h1 h2 => absurd h1 (by omega), fun k h1 h2 => absurd h1 (by omega)⟩
theorem Part.up {a b i j : Nat} {d0 d : Array Int} (h : Part a b d0 i j d) (hij : i ≤ j) (hl : ltInt d[i]! d[a]! = true) : Part a b d0 (i + 1) j d :=
  ⟨h.size, by have := h.lo; omega, by omega, h.hi, h.perm, fun k h1 h2 => by
    by_cases hk : k = i
    · subst hk; exact hl
    · exact h.left k h1 (by omega), h.right⟩
theorem Part.down {a b i j : Nat} {d0 d : Array Int} (h : Part a b d0 i j d) (hij : i ≤ j) (hl : ltInt d[j]! d[a]! = false) : Part a b d0 i (j - 1) d :=
  ⟨h.size, h.lo, by omega, by have := h.hi; omega, h.perm, h.left, fun k h1 h2 => by
    by_cases hk : k = j
    · subst hk; exact hl
    · exact h.right k (by have := h.lo; omega) h2⟩
theorem Part.swap {a b i j : Nat} {d0 d : Array Int} (h : Part a b d0 i j d) (hb : b ≤ d0.size) (hij : i ≤ j) (hi : ltInt d[i]! d[a]! = false) (hj : ltInt d[j]! d[a]! = true) : i < j ∧ Part a b d0 (i + 1) (j - 1) (swp d i j) := by
  have hlo := h.lo
  have hhi := h.hi
  have hs := h.size
  have hne : i < j := by
    rcases Nat.lt_or_ge i j with h1 | h1
    · exact h1
    · have : i = j := by omega
      subst this
      rw [hi] at hj; cases hj
  have ea : (swp d i j)[a]! = d[a]! := swp_other d i j a (by omega) (by omega)
  refine ⟨hne, by rw [size_swp]; exact hs, by omega, by omega, by omega, permIn_trans _ _ _ _ _ h.perm (swp_permIn d a b i j (by omega) (by omega) (by omega) (by omega) (by omega)), fun k h1 h2 => ?_, fun k h1 h2 => ?_⟩
  · rw [ea]
    by_cases hk : k = i
    · subst hk
      rw [swp_left d k j (by omega) (by omega)]; exact hj
    · rw [swp_other d i j k hk (by omega)]; exact h.left k h1 (by omega)
  · rw [ea]
    by_cases hk : k = j
    · subst hk
      rw [swp_right d i k (by omega)]; exact hi
    · rw [swp_other d i j k (by omega) hk]; exact h.right k (by omega) h2

/-- It is parted. -/
def Parted (a b : Nat) (d0 : Array Int) (m : Nat) (d : Array Int) : Prop :=
  a ≤ m ∧ m < b ∧ PermIn a b d0 d ∧ (∀ k, a ≤ k → k < m → ltInt d[k]! d[m]! = true) ∧ (∀ k, m < k → k < b → ltInt d[k]! d[m]! = false)

theorem Part.done {a b i j : Nat} {d0 d : Array Int} (h : Part a b d0 i j d) (hb : b ≤ d0.size) (hij : ¬ i ≤ j) : Parted a b d0 j (swp d j a) := by
  have hlo := h.lo
  have hhi := h.hi
  have hs := h.size
  have hm := h.mid
  refine ⟨by omega, hhi, permIn_trans _ _ _ _ _ h.perm (swp_permIn d a b j a (by omega) (by omega) (by omega) (by omega) (by omega)), fun k h1 h2 => ?_, fun k h1 h2 => ?_⟩
  · have ej : (swp d j a)[j]! = d[a]! := swp_left d j a (by omega) (by omega)
    rw [ej]
    by_cases hk : k = a
    · subst hk
      rw [swp_right d j k (by omega)]
      exact h.left j (by omega) (by omega)
    · rw [swp_other d j a k (by omega) hk]
      exact h.left k (by omega) (by omega)
  · have ej : (swp d j a)[j]! = d[a]! := by
      by_cases hja : j = a
      · subst hja; exact swp_right d j j (by omega)
      · exact swp_left d j a (by omega) hja
    rw [ej, swp_other d j a k (by omega) (by omega)]
    exact h.right k h1 h2

set_option maxHeartbeats 8000000 in
set_option maxRecDepth 100000 in
theorem partition_rune (blk off cap a b pivot : Nat) (d : Array Int) (w : World) (hH : Holds (Value.int .i32) w blk off d) (hap : a < pivot) (hpb : pivot < b) (hb : b ≤ d.size) (hsz : d.size < 50) :
    Calls Tryz.prog 153 #[.slice (some ⟨blk, off, none⟩) d.size cap, .int .i64 a, .int .i64 b, .int .i64 pivot] w fun e w' => ∃ (m : Nat) (r : Bool) (d' : Array Int), e = .returned (.tuple #[.int .i64 m, .bool r]) ∧ Parted a b d m d' ∧ RowH w blk off d' w' := by
  have H0 : Hid (RowH w blk off d w) := RowH.refl hH
  clear hH
  have HS : Hid (Part a b d (a + 1) (b - 1) (swp d a pivot)) := Part.start (by omega) (by rw [size_swp]) (swp_permIn d a b a pivot (by omega) (by omega) (by omega) (by omega) hb)
  obtain ⟨G0, hcw0, hfw0, hG0⟩ := H0.out.cells
  have HR1 : Hid (RowH w blk off (swp d a pivot) ((w.setCell ⟨blk, off + a, none⟩ (.int .i32 (G0 pivot))).setCell ⟨blk, off + pivot, none⟩ (.int .i32 (G0 a))).drew) := by
    have h := (H0.out.swap a pivot (by omega) (by omega)).draws 1
    simp only [← hG0.out] at h
    exact h
  go_enter Tryz.func153, Tryz.ntmps153
  go_wp2
  go_region
  generalize ((w.setCell ⟨blk, off + a, none⟩ (.int .i32 (G0 pivot))).setCell ⟨blk, off + pivot, none⟩ (.int .i32 (G0 a))).drew = wr1 at HR1 ⊢
  clear hcw0 hfw0 hG0 H0
  obtain ⟨J, hJ1, hJ2⟩ : ∃ J, J + 1 ≤ b ∧ b ≤ J + 1 := ⟨b - 1, by omega, by omega⟩
  obtain ⟨I, hI1, hI2⟩ : ∃ I, I ≤ a + 1 ∧ a + 1 ≤ I := ⟨a + 1, by omega, by omega⟩
  have eJ : (b : Int) - 1 = (J : Int) := by omega
  have eI : (a : Int) + 1 = (I : Int) := by omega
  have HP : Hid (Part a b d I J (swp d a pivot)) := by
    have h := HS.out
    rw [show a + 1 = I by omega, show b - 1 = J by omega] at h
    exact h
  clear HS
  have HR : Hid (RowH w blk off (swp d a pivot) wr1) := HR1
  clear HR1
  generalize swp d a pivot = dk at HP HR
  go_wp2
  go_loopw [10] (fun vi wr => ∃ (i : Nat), vi = .int .i64 i ∧ I ≤ i ∧ Hid (Part a b d i J dk) ∧ Hid (RowH w blk off dk wr)) (fun vi _ => J + 1 - (intOf vi).toNat)
  case atStart => exact ⟨I, rfl, Nat.le_refl _, HP, HR⟩
  case round =>
    clear HP HR
    obtain ⟨i, rfl, hIi, HP, HR⟩ := hrel
    have hlo := HP.out.lo
    have hmid := HP.out.mid
    have hsk := HP.out.size
    obtain ⟨G, hcw, hfw, hG⟩ := HR.out.cells
    rw [hsk] at hcw hfw
    by_cases hij : i ≤ J
    · have hiji : (i : Int) ≤ (J : Int) := by omega
      go_wp2
      go_quiet (first | (go_at_call 151; refine Calls.quiet_of_same (less_rune _ _ _)))
      go_wp2
      · have hl : ltInt (G i) (G a) = true := by assumption
        go_roundw
        case rel => exact ⟨i + 1, by go_num, by omega, HP.out.up hij (by rw [← hG.out, ← hG.out]; exact hl), HR.out.draws nq⟩
        case measure => simp [intOf]; omega
      · have hl : ltInt (G i) (G a) = false := by assumption
        have HL : Hid (ltInt dk[i]! dk[a]! = false) := by rw [← hG.out, ← hG.out]; exact hl
        revert nq; intro nq1
        have HR2 : Hid (RowH w blk off dk (wr.drewN nq1)) := HR.out.draws nq1
        clear hcw hfw hG HR hl
        generalize wr.drewN nq1 = wr1 at HR2 ⊢
        go_loopw [11] (fun vj wr => ∃ (j : Nat), vj = .int .i64 j ∧ j ≤ J ∧ Hid (Part a b d i j dk) ∧ Hid (RowH w blk off dk wr)) (fun vj _ => (intOf vj).toNat)
        case atStart => exact ⟨J, rfl, Nat.le_refl _, HP, HR2⟩
        case round =>
          clear HP HR2
          obtain ⟨j, rfl, hjJ, HP, HR⟩ := hrel
          have hmid2 := HP.out.mid
          have hhi2 := HP.out.hi
          obtain ⟨G, hcw, hfw, hG⟩ := HR.out.cells
          rw [hsk] at hcw hfw
          by_cases hij2 : i ≤ j
          · have hij2i : (i : Int) ≤ (j : Int) := by omega
            go_wp2
            go_quiet (first | (go_at_call 151; refine Calls.quiet_of_same (less_rune _ _ _)))
            go_wp2
            · have hl : ltInt (G j) (G a) = false := by
                have : (!ltInt (G j) (G a)) = true := by assumption
                simpa using this
              go_roundw
              case rel => exact ⟨j - 1, by congr 1; omega, by omega, HP.out.down hij2 (by rw [← hG.out, ← hG.out]; exact hl), HR.out.draws nq⟩
              case measure => simp [intOf]; omega
            · have hl : ltInt (G j) (G a) = true := by
                have : (!ltInt (G j) (G a)) = false := by assumption
                simpa using this
              have HL2 : Hid (ltInt dk[j]! dk[a]! = true) := by rw [← hG.out, ← hG.out]; exact hl
              revert nq; intro nq2
              have hcw2 : ∀ t, t < d.size → (wr.drewN nq2).cell? ⟨blk, off + t, none⟩ = some (.int .i32 (G t)) := hcw
              have hfw2 : ∀ t, t < d.size → (wr.drewN nq2).frozen? ⟨blk, off + t, none⟩ = false := hfw
              have HR2 : Hid (RowH w blk off dk (wr.drewN nq2)) := HR.out.draws nq2
              clear hcw hfw HR hl
              generalize wr.drewN nq2 = wr2 at hcw2 hfw2 HR2 ⊢
              have hgt : ¬ (j : Int) < (i : Int) := by omega
              obtain ⟨hij3, HP3⟩ := HP.out.swap hb hij2 HL.out HL2.out
              have HP3 : Hid (Part a b d (i + 1) (j - 1) (swp dk i j)) := HP3
              have HR3 : Hid (RowH w blk off (swp dk i j) ((wr2.setCell ⟨blk, off + i, none⟩ (.int .i32 (G j))).setCell ⟨blk, off + j, none⟩ (.int .i32 (G i))).drew) := by
                have h := (HR2.out.swap i j (by omega) (by omega)).draws 1
                simp only [← hG.out] at h
                exact h
              go_wp2
              go_region
              generalize ((wr2.setCell ⟨blk, off + i, none⟩ (.int .i32 (G j))).setCell ⟨blk, off + j, none⟩ (.int .i32 (G i))).drew = wr3 at HR3 ⊢
              clear hcw2 hfw2 HR2 hG HL HL2 HP
              go_wp2
              go_loopw [10, 11] (fun vi vj wr => ∃ (I J : Nat) (dk : Array Int), vi = .int .i64 I ∧ vj = .int .i64 J ∧ Hid (Part a b d I J dk) ∧ Hid (RowH w blk off dk wr)) (fun vi vj _ => (intOf vj + 1 - intOf vi).toNat)
              case atStart => exact ⟨i + 1, j - 1, swp dk i j, by go_num, by congr 1; omega, HP3, HR3⟩
              case round =>
                clear HP3 HR3 hij3 hij2 hIi hjJ hhi2 hmid2 hgt hij hsk hmid hlo
                clear hij2i hiji
                obtain ⟨I, J, dk, rfl, rfl, HP, HR⟩ := hrel
                have hloI := HP.out.lo
                have hhiJ := HP.out.hi
                go_wp2
                go_loopw [10] (fun vi wr => ∃ (i : Nat), vi = .int .i64 i ∧ I ≤ i ∧ Hid (Part a b d i J dk) ∧ Hid (RowH w blk off dk wr)) (fun vi _ => J + 1 - (intOf vi).toNat)
                case atStart => exact ⟨I, rfl, Nat.le_refl _, HP, HR⟩
                case round =>
                  clear HP HR
                  obtain ⟨i, rfl, hIi, HP, HR⟩ := hrel
                  have hlo := HP.out.lo
                  have hmid := HP.out.mid
                  have hsk := HP.out.size
                  obtain ⟨G, hcw, hfw, hG⟩ := HR.out.cells
                  rw [hsk] at hcw hfw
                  by_cases hij : i ≤ J
                  · have hiji : (i : Int) ≤ (J : Int) := by omega
                    go_wp2
                    go_quiet (first | (go_at_call 151; refine Calls.quiet_of_same (less_rune _ _ _)))
                    go_wp2
                    · have hl : ltInt (G i) (G a) = true := by assumption
                      go_roundw
                      case rel => exact ⟨i + 1, by go_num, by omega, HP.out.up hij (by rw [← hG.out, ← hG.out]; exact hl), HR.out.draws nq⟩
                      case measure => simp [intOf]; omega
                    · have hl : ltInt (G i) (G a) = false := by assumption
                      have HL : Hid (ltInt dk[i]! dk[a]! = false) := by rw [← hG.out, ← hG.out]; exact hl
                      revert nq; intro nq1
                      have HR2 : Hid (RowH w blk off dk (wr.drewN nq1)) := HR.out.draws nq1
                      clear hcw hfw hG HR hl
                      generalize wr.drewN nq1 = wr1 at HR2 ⊢
                      go_loopw [11] (fun vj wr => ∃ (j : Nat), vj = .int .i64 j ∧ j ≤ J ∧ Hid (Part a b d i j dk) ∧ Hid (RowH w blk off dk wr)) (fun vj _ => (intOf vj).toNat)
                      case atStart => exact ⟨J, rfl, Nat.le_refl _, HP, HR2⟩
                      case round =>
                        clear HP HR2
                        obtain ⟨j, rfl, hjJ, HP, HR⟩ := hrel
                        have hmid2 := HP.out.mid
                        have hhi2 := HP.out.hi
                        obtain ⟨G, hcw, hfw, hG⟩ := HR.out.cells
                        rw [hsk] at hcw hfw
                        by_cases hij2 : i ≤ j
                        · have hij2i : (i : Int) ≤ (j : Int) := by omega
                          go_wp2
                          go_quiet (first | (go_at_call 151; refine Calls.quiet_of_same (less_rune _ _ _)))
                          go_wp2
                          · have hl : ltInt (G j) (G a) = false := by
                              have : (!ltInt (G j) (G a)) = true := by assumption
                              simpa using this
                            go_roundw
                            case rel => exact ⟨j - 1, by congr 1; omega, by omega, HP.out.down hij2 (by rw [← hG.out, ← hG.out]; exact hl), HR.out.draws nq⟩
                            case measure => simp [intOf]; omega
                          · have hl : ltInt (G j) (G a) = true := by
                              have : (!ltInt (G j) (G a)) = false := by assumption
                              simpa using this
                            have HL2 : Hid (ltInt dk[j]! dk[a]! = true) := by rw [← hG.out, ← hG.out]; exact hl
                            revert nq; intro nq2
                            have hcw2 : ∀ t, t < d.size → (wr.drewN nq2).cell? ⟨blk, off + t, none⟩ = some (.int .i32 (G t)) := hcw
                            have hfw2 : ∀ t, t < d.size → (wr.drewN nq2).frozen? ⟨blk, off + t, none⟩ = false := hfw
                            have HR2 : Hid (RowH w blk off dk (wr.drewN nq2)) := HR.out.draws nq2
                            clear hcw hfw HR hl
                            generalize wr.drewN nq2 = wr2 at hcw2 hfw2 HR2 ⊢
                            have hgt : ¬ (j : Int) < (i : Int) := by omega
                            obtain ⟨hij3, HP3⟩ := HP.out.swap hb hij2 HL.out HL2.out
                            have HP3 : Hid (Part a b d (i + 1) (j - 1) (swp dk i j)) := HP3
                            have HR3 : Hid (RowH w blk off (swp dk i j) ((wr2.setCell ⟨blk, off + i, none⟩ (.int .i32 (G j))).setCell ⟨blk, off + j, none⟩ (.int .i32 (G i))).drew) := by
                              have h := (HR2.out.swap i j (by omega) (by omega)).draws 1
                              simp only [← hG.out] at h
                              exact h
                            go_wp2
                            go_region
                            go_wp2
                            go_roundw
                            case rel => exact ⟨i + 1, j - 1, swp dk i j, by go_num, by congr 1; omega, HP3, HR3⟩
                            case measure => simp [intOf]; omega

                        · have hij2i : decide ((i : Int) ≤ (j : Int)) = false := decide_eq_false (by omega)
                          go_wp2
                          go_quiet (first | (go_at_call 151; refine Calls.quiet_of_same (less_rune _ _ _)))
                          revert nq; intro nq2
                          have hcw2 : ∀ t, t < d.size → (wr.drewN nq2).cell? ⟨blk, off + t, none⟩ = some (.int .i32 (G t)) := hcw
                          have hfw2 : ∀ t, t < d.size → (wr.drewN nq2).frozen? ⟨blk, off + t, none⟩ = false := hfw
                          have HR2 : Hid (RowH w blk off dk (wr.drewN nq2)) := HR.out.draws nq2
                          clear hcw hfw HR
                          generalize wr.drewN nq2 = wr2 at hcw2 hfw2 HR2 ⊢
                          have hgt : (j : Int) < (i : Int) := by omega
                          by_cases hja : j = a
                          all_goals
                            go_wp2
                            go_region
                            all_goals go_wp2
                            go_ret2
                            refine ⟨j, false, swp dk j a, rfl, HP.out.done hb (by omega), ?_⟩
                            have h := (HR2.out.swap j a (by have := HP.out.size; have := HP.out.hi; omega) (by have := HP.out.size; omega)).draws 1
                            simp only [← hG.out] at h
                            first
                              | exact h
                              | (rw [hja] at h ⊢; exact h)
                              | (simp only [hja] at h ⊢; exact h)

                  · have hiji : decide ((i : Int) ≤ (J : Int)) = false := decide_eq_false (by omega)
                    go_wp2
                    go_quiet (first | (go_at_call 151; refine Calls.quiet_of_same (less_rune _ _ _)))
                    revert nq; intro nq1
                    have HR2 : Hid (RowH w blk off dk (wr.drewN nq1)) := HR.out.draws nq1
                    clear hcw hfw hG HR
                    generalize wr.drewN nq1 = wr1 at HR2 ⊢
                    go_wp2
                    go_loopw [11] (fun vj wr => vj = .int .i64 J ∧ Hid (RowH w blk off dk wr)) (fun _ _ => 0)
                    case atStart => exact ⟨rfl, HR2⟩
                    case round =>
                      clear HR2
                      obtain ⟨rfl, HR⟩ := hrel
                      obtain ⟨G, hcw, hfw, hG⟩ := HR.out.cells
                      rw [hsk] at hcw hfw
                      go_wp2
                      go_quiet (first | (go_at_call 151; refine Calls.quiet_of_same (less_rune _ _ _)))
                      revert nq; intro nq2
                      have hcw2 : ∀ t, t < d.size → (wr.drewN nq2).cell? ⟨blk, off + t, none⟩ = some (.int .i32 (G t)) := hcw
                      have hfw2 : ∀ t, t < d.size → (wr.drewN nq2).frozen? ⟨blk, off + t, none⟩ = false := hfw
                      have HR2 : Hid (RowH w blk off dk (wr.drewN nq2)) := HR.out.draws nq2
                      clear hcw hfw HR
                      generalize wr.drewN nq2 = wr2 at hcw2 hfw2 HR2 ⊢
                      have hgt : (J : Int) < (i : Int) := by omega
                      have hhi2 := HP.out.hi
                      by_cases hja : J = a
                      all_goals
                        go_wp2
                        go_region
                        all_goals go_wp2
                        go_ret2
                        refine ⟨J, false, swp dk J a, rfl, HP.out.done hb (by omega), ?_⟩
                        have h := (HR2.out.swap J a (by have := HP.out.size; have := HP.out.hi; omega) (by have := HP.out.size; omega)).draws 1
                        simp only [← hG.out] at h
                        first
                          | exact h
                          | (rw [hja] at h ⊢; exact h)
                          | (simp only [hja] at h ⊢; exact h)

          · have hij2i : decide ((i : Int) ≤ (j : Int)) = false := decide_eq_false (by omega)
            go_wp2
            go_quiet (first | (go_at_call 151; refine Calls.quiet_of_same (less_rune _ _ _)))
            revert nq; intro nq2
            have hcw2 : ∀ t, t < d.size → (wr.drewN nq2).cell? ⟨blk, off + t, none⟩ = some (.int .i32 (G t)) := hcw
            have hfw2 : ∀ t, t < d.size → (wr.drewN nq2).frozen? ⟨blk, off + t, none⟩ = false := hfw
            have HR2 : Hid (RowH w blk off dk (wr.drewN nq2)) := HR.out.draws nq2
            clear hcw hfw HR
            generalize wr.drewN nq2 = wr2 at hcw2 hfw2 HR2 ⊢
            have hgt : (j : Int) < (i : Int) := by omega
            by_cases hja : j = a
            all_goals
              go_wp2
              go_region
              all_goals go_wp2
              go_ret2
              refine ⟨j, true, swp dk j a, rfl, HP.out.done hb (by omega), ?_⟩
              have h := (HR2.out.swap j a (by have := HP.out.size; have := HP.out.hi; omega) (by have := HP.out.size; omega)).draws 1
              simp only [← hG.out] at h
              first
                | exact h
                | (rw [hja] at h ⊢; exact h)
                | (simp only [hja] at h ⊢; exact h)

    · have hiji : decide ((i : Int) ≤ (J : Int)) = false := decide_eq_false (by omega)
      go_wp2
      go_quiet (first | (go_at_call 151; refine Calls.quiet_of_same (less_rune _ _ _)))
      revert nq; intro nq1
      have HR2 : Hid (RowH w blk off dk (wr.drewN nq1)) := HR.out.draws nq1
      clear hcw hfw hG HR
      generalize wr.drewN nq1 = wr1 at HR2 ⊢
      go_wp2
      go_loopw [11] (fun vj wr => vj = .int .i64 J ∧ Hid (RowH w blk off dk wr)) (fun _ _ => 0)
      case atStart => exact ⟨rfl, HR2⟩
      case round =>
        clear HR2
        obtain ⟨rfl, HR⟩ := hrel
        obtain ⟨G, hcw, hfw, hG⟩ := HR.out.cells
        rw [hsk] at hcw hfw
        go_wp2
        go_quiet (first | (go_at_call 151; refine Calls.quiet_of_same (less_rune _ _ _)))
        revert nq; intro nq2
        have hcw2 : ∀ t, t < d.size → (wr.drewN nq2).cell? ⟨blk, off + t, none⟩ = some (.int .i32 (G t)) := hcw
        have hfw2 : ∀ t, t < d.size → (wr.drewN nq2).frozen? ⟨blk, off + t, none⟩ = false := hfw
        have HR2 : Hid (RowH w blk off dk (wr.drewN nq2)) := HR.out.draws nq2
        clear hcw hfw HR
        generalize wr.drewN nq2 = wr2 at hcw2 hfw2 HR2 ⊢
        have hgt : (J : Int) < (i : Int) := by omega
        have hhi2 := HP.out.hi
        have hja : ¬ J = a := by omega
        go_wp2
        go_region
        all_goals go_wp2
        go_ret2
        refine ⟨J, true, swp dk J a, rfl, HP.out.done hb (by omega), ?_⟩
        have h := (HR2.out.swap J a (by have := HP.out.size; have := HP.out.hi; omega) (by have := HP.out.size; omega)).draws 1
        simp only [← hG.out] at h
        first
          | exact h
          | (rw [hja] at h ⊢; exact h)
          | (simp only [hja] at h ⊢; exact h)

end Go.Proofs.YtdfnngehhiociaaGreatDoor

namespace Go.Proofs.YtdfnngehhiociaaGreatDoor
open Go.Sort

/-- No element twice. -/
def Dist (d : Array Int) : Prop := ∀ i j, i < j → j < d.size → d[i]! ≠ d[j]!

theorem dist_iff (d : Array Int) : Dist d ↔ d.toList.Nodup := by
  unfold Dist List.Nodup
  rw [List.pairwise_iff_getElem]
  constructor
  · intro h i j hi hj hij
    have := h i j hij (by simpa using hj)
    rw [getElem!_pos d i (by simpa using hi), getElem!_pos d j (by simpa using hj)] at this
    simpa using this
  · intro h i j hij hj
    have := h i j (by simp; omega) (by simpa using hj) hij
    rw [getElem!_pos d i (by omega), getElem!_pos d j hj]
    simpa using this

theorem perm_whole {a b : Nat} {d d' : Array Int} (h : PermIn a b d d') (hb : b ≤ d.size) : d'.toList.Perm d.toList := by
  have h2 := permIn_mono d d' a b 0 d.size (Nat.zero_le _) hb (Nat.le_refl _) h
  have e1 : d.extract 0 d.size = d := Array.extract_size
  have e2 : d'.extract 0 d.size = d' := by rw [← h.1]; exact Array.extract_size
  have h3 := h2.2.2
  rw [e1, e2] at h3
  exact h3

theorem Dist.perm {a b : Nat} {d d' : Array Int} (hd : Dist d) (h : PermIn a b d d') (hb : b ≤ d.size) : Dist d' := by
  rw [dist_iff] at hd ⊢
  exact (perm_whole h hb).nodup_iff.2 hd

/-- What lies left of a is less. -/
def Under (a b : Nat) (d : Array Int) : Prop := a = 0 ∨ ∀ i, a ≤ i → i < b → d[a - 1]! < d[i]!

/-- All that is not within [a', b') stands where it must. -/
structure PS (a b : Nat) (d : Array Int) (a' b' : Nat) (dk : Array Int) : Prop where
  perm : PermIn a b d dk
  dist : Dist dk
  lo : a ≤ a'
  mid : a' ≤ b'
  hi : b' ≤ b
  fix : ∀ i j, a ≤ i → i < j → j < b → ¬ (a' ≤ i ∧ j < b') → dk[i]! < dk[j]!
  below : Under a' b' dk

theorem PS.start {a b : Nat} {d : Array Int} (hab : a ≤ b) (hd : Dist d) (hu : Under a b d) : PS a b d a b d :=
  ⟨permIn_refl _ _ _, hd, Nat.le_refl _, hab, Nat.le_refl _, fun _ _ h1 _ h3 h4 => absurd ⟨h1, h3⟩ h4, hu⟩

theorem permIn_in {a b : Nat} {d d' : Array Int} (h : PermIn a b d d') (hb : b ≤ d.size) (p : Int → Prop) (hp : ∀ i, a ≤ i → i < b → p d[i]!) : ∀ i, a ≤ i → i < b → p d'[i]! := permIn_all d d' a b p hb h hp

theorem Under.perm {a b a' b' : Nat} {d d' : Array Int} (hu : Under a b d) (h : PermIn a' b' d d') (ha : a ≤ a') (hb : b' ≤ b) (hbs : b ≤ d.size) : Under a b d' := by
  rcases hu with h0 | hu
  · exact Or.inl h0
  · by_cases h0 : a = 0
    · exact Or.inl h0
    · refine Or.inr ?_
      rw [h.2.1 (a - 1) (Or.inl (by omega))]
      refine permIn_in (permIn_mono d d' a' b' a b ha hb hbs h) hbs (fun x => d[a - 1]! < x) hu

theorem PS.turn {a b a' b' : Nat} {d dk d1 : Array Int} (h : PS a b d a' b' dk) (hp : PermIn a' b' dk d1) (hb : b ≤ d.size) : PS a b d a' b' d1 := by
  have hs : dk.size = d.size := h.perm.1
  have hlo := h.lo
  have hmid := h.mid
  have hhi := h.hi
  refine ⟨permIn_trans _ _ _ _ _ h.perm (permIn_mono dk d1 a' b' a b hlo hhi (by omega) hp), h.dist.perm hp (by omega), hlo, hmid, hhi, ?_, h.below.perm hp (Nat.le_refl _) (Nat.le_refl _) (by omega)⟩
  intro i j h1 h2 h3 h4
  by_cases hi : a' ≤ i ∧ i < b'
  · have hj : b' ≤ j := by omega
    rw [hp.2.1 j (Or.inr hj)]
    exact permIn_in hp (by omega) (fun x => x < dk[j]!) (fun k k1 k2 => h.fix k j (by omega) (by omega) h3 (by omega)) i hi.1 hi.2
  · by_cases hj : a' ≤ j ∧ j < b'
    · have hi' : i < a' := by omega
      rw [hp.2.1 i (Or.inl hi')]
      exact permIn_in hp (by omega) (fun x => dk[i]! < x) (fun k k1 k2 => h.fix i k h1 (by omega) (by omega) (by omega)) j hj.1 hj.2
    · rw [hp.2.1 i (by omega), hp.2.1 j (by omega)]
      exact h.fix i j h1 h2 h3 h4

theorem lt_of {x y : Int} (h : ltInt x y = true) : x < y := by simpa [ltInt] using h
theorem not_lt_of {x y : Int} (h : ltInt x y = false) : ¬ x < y := by simpa [ltInt] using h

theorem sorted_lt {a b : Nat} {d : Array Int} (h : SortedIn ltInt a b d) (hd : Dist d) (hb : b ≤ d.size) {i j : Nat} (h1 : a ≤ i) (h2 : i < j) (h3 : j < b) : d[i]! < d[j]! := by
  have := not_lt_of (h i j h1 h2 h3)
  have := hd i j h2 (by omega)
  omega

theorem PS.done {a b a' b' : Nat} {d dk : Array Int} (h : PS a b d a' b' dk) (hs : SortedIn ltInt a' b' dk) : SortedIn ltInt a b dk := by
  intro i j h1 h2 h3
  by_cases hin : a' ≤ i ∧ j < b'
  · exact hs i j hin.1 h2 hin.2
  · have := h.fix i j h1 h2 h3 hin
    simp only [ltInt, decide_eq_false_iff_not]
    omega

section
variable {a b a' b' m : Nat} {d d3 d4 d5 : Array Int}

theorem Parted.lt (hP : Parted a' b' d3 m d4) (hd : Dist d4) (hb : b' ≤ d4.size) : (∀ k, a' ≤ k → k < m → d4[k]! < d4[m]!) ∧ (∀ k, m < k → k < b' → d4[m]! < d4[k]!) :=
  ⟨fun k h1 h2 => lt_of (hP.2.2.2.1 k h1 h2), fun k h1 h2 => by
    have := not_lt_of (hP.2.2.2.2 k h1 h2)
    have := hd m k h1 (by omega)
    omega⟩

theorem PS.parted (h : PS a b d a' b' d3) (hb : b ≤ d.size) (hP : Parted a' b' d3 m d4) : PS a b d a' b' d4 := h.turn hP.2.2.1 hb

/-- The left side is sorted: the right side is left. -/
theorem PS.right (h : PS a b d a' b' d4) (hb : b ≤ d.size) (hP : Parted a' b' d3 m d4) (hp : PermIn a' m d4 d5) (hs : SortedIn ltInt a' m d5) : PS a b d (m + 1) b' d5 := by
  have h4s : d4.size = d.size := h.perm.1
  have hlo := h.lo
  have hhi := h.hi
  have hm1 := hP.1
  have hm2 := hP.2.1
  obtain ⟨hl, hr⟩ := hP.lt h.dist (by omega)
  have h5 : PS a b d a' b' d5 := h.turn (permIn_mono d4 d5 a' m a' b' (Nat.le_refl _) (by omega) (by omega) hp) hb
  have h5s : d5.size = d.size := h5.perm.1
  have em : d5[m]! = d4[m]! := hp.2.1 m (Or.inr (Nat.le_refl _))
  have hl5 : ∀ k, a' ≤ k → k < m → d5[k]! < d5[m]! := by
    rw [em]; exact permIn_in hp (by omega) (fun x => x < d4[m]!) hl
  have hr5 : ∀ k, m < k → k < b' → d5[m]! < d5[k]! := fun k k1 k2 => by
    rw [em, hp.2.1 k (Or.inr (by omega))]; exact hr k k1 k2
  refine ⟨h5.perm, h5.dist, by omega, by omega, hhi, ?_, Or.inr fun i i1 i2 => hr5 i (by omega) i2⟩
  intro i j h1 h2 h3 h4
  by_cases hin : a' ≤ i ∧ j < b'
  · by_cases hi : i < m
    · by_cases hj : j < m
      · exact sorted_lt hs h5.dist (by omega) hin.1 h2 hj
      · have x1 := hl5 i hin.1 hi
        by_cases hjm : j = m
        · subst hjm; exact x1
        · have x2 := hr5 j (by omega) hin.2
          omega
    · have him : i = m := by omega
      subst him
      exact hr5 j h2 hin.2
  · exact h5.fix i j h1 h2 h3 hin

theorem PS.left (h : PS a b d a' b' d4) (hb : b ≤ d.size) (hP : Parted a' b' d3 m d4) (hp : PermIn (m + 1) b' d4 d5) (hs : SortedIn ltInt (m + 1) b' d5) : PS a b d a' m d5 := by
  have h4s : d4.size = d.size := h.perm.1
  have hlo := h.lo
  have hhi := h.hi
  have hm1 := hP.1
  have hm2 := hP.2.1
  obtain ⟨hl, hr⟩ := hP.lt h.dist (by omega)
  have h5 : PS a b d a' b' d5 := h.turn (permIn_mono d4 d5 (m + 1) b' a' b' (by omega) (Nat.le_refl _) (by omega) hp) hb
  have h5s : d5.size = d.size := h5.perm.1
  have em : d5[m]! = d4[m]! := hp.2.1 m (Or.inl (by omega))
  have hl5 : ∀ k, a' ≤ k → k < m → d5[k]! < d5[m]! := fun k k1 k2 => by
    rw [em, hp.2.1 k (Or.inl (by omega))]; exact hl k k1 k2
  have hr5 : ∀ k, m + 1 ≤ k → k < b' → d5[m]! < d5[k]! := by
    rw [em]; exact permIn_in hp (by omega) (fun x => d4[m]! < x) (fun k k1 k2 => hr k (by omega) k2)
  refine ⟨h5.perm, h5.dist, hlo, hm1, by omega, ?_, ?_⟩
  · intro i j h1 h2 h3 h4
    by_cases hin : a' ≤ i ∧ j < b'
    · by_cases hi : i < m
      · have hj : m ≤ j := by omega
        have x1 := hl5 i hin.1 hi
        by_cases hjm : j = m
        · subst hjm; exact x1
        · have x2 := hr5 j (by omega) hin.2
          omega
      · by_cases him : i = m
        · subst him
          exact hr5 j (by omega) hin.2
        · exact sorted_lt hs h5.dist (by omega) (by omega) h2 hin.2
    · exact h5.fix i j h1 h2 h3 hin
  · rcases h5.below with h0 | hu
    · exact Or.inl h0
    · exact Or.inr fun i i1 i2 => hu i i1 (by omega)

theorem under_left (h : PS a b d a' b' d4) (hP : Parted a' b' d3 m d4) : Under a' m d4 := by
  have hm2 := hP.2.1
  rcases h.below with h0 | hu
  · exact Or.inl h0
  · exact Or.inr fun i i1 i2 => hu i i1 (by omega)
theorem under_right (h : PS a b d a' b' d4) (hb : b ≤ d.size) (hP : Parted a' b' d3 m d4) : Under (m + 1) b' d4 := by
  have h4s : d4.size = d.size := h.perm.1
  have hhi := h.hi
  exact Or.inr fun i i1 i2 => (hP.lt h.dist (by omega)).2 i (by omega) i2
end

end Go.Proofs.YtdfnngehhiociaaGreatDoor

namespace Go.Proofs.YtdfnngehhiociaaGreatDoor
open Go.RowKit Go.Sort

set_option maxHeartbeats 1000000 in
set_option maxRecDepth 1000000 in
theorem pdq_rune : ∀ (N blk off cap a b limit : Nat) (d : Array Int) (w : World), b - a < N → Holds (Value.int .i32) w blk off d → a ≤ b → b ≤ d.size → d.size < 50 → limit < 100 → Dist d → Under a b d →
    Calls Tryz.prog 128 #[.slice (some ⟨blk, off, none⟩) d.size cap, .int .i64 a, .int .i64 b, .int .i64 limit] w fun e w' => e = .returned (.tuple #[]) ∧ ∃ d', PermIn a b d d' ∧ SortedIn ltInt a b d' ∧ RowH w blk off d' w' := by
  intro N
  induction N with
  | zero => intro _ _ _ _ _ _ _ _ h; exact absurd h (Nat.not_lt_zero _)
  | succ N ih =>
    intro blk off cap a b limit d w hN hH hab hb hsz hlimit hD hU
    have HPS : Hid (PS a b d a b d) := PS.start hab hD hU
    have HR0 : Hid (RowH w blk off d w) := RowH.refl hH
    have IH : Hid _ := ih
    clear ih hD hU hH
    go_enter Tryz.func128, Tryz.ntmps128
    go_wp2
    go_loopw [1, 2, 3, 8, 9] (fun s1 s2 s3 s8 s9 wr => ∃ (a' b' lim : Nat) (wb wp : Bool) (dk : Array Int), s1 = .int .i64 a' ∧ s2 = .int .i64 b' ∧ s3 = .int .i64 lim ∧ s8 = .bool wb ∧ s9 = .bool wp ∧
      lim ≤ limit ∧ Hid (PS a b d a' b' dk) ∧ Hid (RowH w blk off dk wr)) (fun s1 s2 _ _ _ _ => (intOf s2 - intOf s1).toNat)
    case atStart => exact ⟨a, b, limit, true, true, d, rfl, rfl, rfl, rfl, rfl, Nat.le_refl _, HPS, HR0⟩
    case round =>
      clear HPS HR0
      obtain ⟨a', b', lim, wb, wp, dk, rfl, rfl, rfl, rfl, rfl, hlim, HP, HR⟩ := hrel
      have hlo := HP.out.lo
      have hmid := HP.out.mid
      have hhi := HP.out.hi
      have hds : dk.size = d.size := HP.out.perm.1
      by_cases h12 : b' - a' ≤ 12
      · have h12z : (b' : Int) - (a' : Int) ≤ 12 := by omega
        have hc := insert_rune blk off cap a' b' dk wr HR.out.holds hmid (by omega) (by omega)
        rw [hds] at hc
        go_wp2_with (go_at_call 145; refine hc.mono ?_; rintro e w1 ⟨rfl, hw1⟩)
        (try simp only [Exit.inBlock, Exit.then])
        refine bodyPost_ret (results_none rfl _ _ _) rfl ?_
        obtain ⟨p, q⟩ := insertionSort_holds swo_ltInt dk a' b' hmid (by omega)
        have h2 := HP.out.turn p hb
        exact ⟨rfl, _, h2.perm, h2.done q, HR.out.trans hw1⟩
      · have h12z : ¬ ((b' : Int) - (a' : Int) ≤ 12) := by omega
        by_cases hl0 : lim = 0
        · subst hl0
          have hc := heap_rune blk off cap a' b' dk wr HR.out.holds (by omega) (by omega) (by omega)
          rw [hds] at hc
          go_wp2_with (go_at_call 146; refine hc.mono ?_; rintro e w1 ⟨rfl, hw1⟩)
          (try simp only [Exit.inBlock, Exit.then])
          refine bodyPost_ret (results_none rfl _ _ _) rfl ?_
          obtain ⟨p, q⟩ := heapSort_holds swo_ltInt dk a' b' hmid (by omega)
          have h2 := HP.out.turn p hb
          exact ⟨rfl, _, h2.perm, h2.done q, HR.out.trans hw1⟩
        · have hl0z : ¬ ((lim : Int) = 0) := by omega
          go_upto_if 35 with fail
          go_cut [3] from 19 (fun s3 wc => ∃ (lim' : Nat) (d1 : Array Int), s3 = .int .i64 lim' ∧ lim' ≤ limit ∧ Hid (PS a b d a' b' d1) ∧ Hid (RowH w blk off d1 wc))
          case first =>
            cases wb
            · have hc := break_rune blk off cap a' b' dk wr HR.out.holds (by omega) (by omega) (by omega)
              rw [hds] at hc
              go_wp2_with (go_at_call 147; refine hc.mono ?_; rintro e w1 ⟨rfl, d1, hp1, hw1⟩)
              go_meet
              case rel => exact ⟨lim - 1, d1, by congr 1; omega, by omega, HP.out.turn hp1 hb, HR.out.trans hw1⟩
            · go_wp2_with fail
              go_meet
              case rel => exact ⟨lim, dk, rfl, hlim, HP, HR⟩
          case rest =>
            clear HP HR hds hlim hl0 hl0z
            obtain ⟨lim', d1, rfl, hlim, HP, HR⟩ := hcut
            have hds : d1.size = d.size := HP.out.perm.1
            have hc := pivot_rune blk off cap a' b' d1 wc HR.out.holds (by omega) (by omega) (by omega)
            rw [hds] at hc
            go_upto_if 50 with (go_at_call 148; refine hc.mono ?_; rintro e w2 ⟨pv, h, rfl, hp1, hp2, hh, hg2⟩)
            have HR2 : Hid (RowH w blk off d1 w2) := ⟨Holds_kept HR.out.holds hg2 (by simp), HR.out.grown.andThen hg2 (fun q hq => by cases hq), fun c e f hc => by
              obtain ⟨c1, h1⟩ := HR.out.typ c e f hc
              exact ⟨c1, (hg2.block blk (Array.getElem?_eq_some_iff.1 h1).1 (by simp)).trans h1⟩⟩
            clear HR hc hg2
            have hh2 : (h == 2) = false := by rcases hh with rfl | rfl <;> rfl
            go_upto_region 15 with fail
            go_cut [68] from 19 (fun s68 wx => s68 = .bool (wb && wp && (h == 1)) ∧ wx = w2)
            case first =>
              cases wb <;> cases wp <;> rcases hh with rfl | rfl <;>
                (go_wp2_with fail
                 go_meet
                 exact ⟨rfl, rfl⟩)
            case rest =>
              obtain ⟨rfl, rfl⟩ := hcut
              go_upto_if 68 with fail
              go_cut [] from 19 (fun wx => Hid (RowH w blk off d1 wx))
              case first =>
                cases h68 : (wb && wp && (h == 1))
                · go_wp2_with fail
                  go_meet
                  exact HR2
                · have hc := partial_rune blk off cap a' b' d1 wc HR2.out.holds (by omega) (by omega) (by omega)
                  rw [hds] at hc
                  go_wp2_with (go_at_call 150; refine hc.mono ?_; rintro e w4 ⟨r, rfl, hr, hw4⟩; cases r)
                  · go_meet
                    exact HR2.out.trans hw4
                  · (try simp only [Exit.inBlock, Exit.then])
                    refine bodyPost_ret (results_none rfl _ _ _) rfl ?_
                    exact ⟨rfl, _, HP.out.perm, HP.out.done (hr (by trivial)), HR2.out.trans hw4⟩
              case rest =>
                clear HR2 hh2
                have HR5 : Hid (RowH w blk off d1 wc) := hcut
                clear hcut
                obtain ⟨G, hcw, hfw, hG⟩ := HR5.out.cells
                rw [hds] at hcw hfw
                have hund : 0 < a' → ltInt (G (a' - 1)) (G pv) = true := fun h0 => by
                  rcases HP.out.below with h1 | h1
                  · omega
                  · rw [hG.out, hG.out]
                    simpa [ltInt] using h1 pv (by omega) hp2
                go_upto_region 17 with fail
                go_cut [87] from 19 (fun s87 wx => s87 = .bool false ∧ Hid (RowH w blk off d1 wx))
                case first =>
                  rcases Nat.eq_zero_or_pos a' with ha0 | ha0
                  · have ha0z : decide ((a' : Int) > 0) = false := decide_eq_false (by omega)
                    go_big_quiet (first | (go_at_call 151; refine Calls.quiet_of_same (less_rune _ _ _)))
                    go_wp2_with fail
                    go_meet
                    case rel => exact ⟨by simp, HR5.out.draws nq⟩
                  · have ha0z : (a' : Int) > 0 := by omega
                    have hl := hund ha0
                    go_big_quiet (first | (go_at_call 151; refine Calls.quiet_of_same (less_rune _ _ _)))
                    go_wp2_with fail
                    go_meet
                    case rel => exact ⟨by simp, HR5.out.draws nq⟩
                case rest =>
                  clear hcw hfw hund hG HR5
                  obtain ⟨rfl, HR6⟩ := hcut
                  have hc := partition_rune blk off cap a' b' pv d1 wc HR6.out.holds hp1 hp2 (by omega) (by omega)
                  rw [hds] at hc
                  go_upto_if 113 with (go_at_call 153; refine hc.mono ?_; rintro e w7 ⟨m, r, d4, rfl, hpt, hw7⟩)
                  have HPT : Hid (Parted a' b' d1 m d4) := hpt
                  have hm1 := hpt.1
                  have hm2 := hpt.2.1
                  have HP4 : Hid (PS a b d a' b' d4) := HP.out.parted hb hpt
                  have HR7 : Hid (RowH w blk off d4 w7) := HR6.out.trans hw7
                  have hd4 : d4.size = d.size := HP4.out.perm.1
                  clear hc hpt hw7 HR6 HP hds
                  have hl := IH.out blk off cap a' m lim' d4 w7 (by omega) HR7.out.holds (by omega) (by omega) (by omega) (by omega) HP4.out.dist (under_left HP4.out HPT.out)
                  have hr := IH.out blk off cap (m + 1) b' lim' d4 w7 (by omega) HR7.out.holds (by omega) (by omega) (by omega) (by omega) HP4.out.dist (under_right HP4.out hb HPT.out)
                  rw [hd4] at hl
                  rw [hd4, show ((m + 1 : Nat) : Int) = (m : Int) + 1 by omega] at hr
                  have HL : Hid (Calls Tryz.prog 128 #[.slice (some ⟨blk, off, none⟩) d.size cap, .int .i64 a', .int .i64 m, .int .i64 lim'] w7 fun e w' => e = .returned (.tuple #[]) ∧ ∃ d', PermIn a' m d4 d' ∧ SortedIn ltInt a' m d' ∧ RowH w7 blk off d' w') := hl
                  have HX : Hid (Calls Tryz.prog 128 #[.slice (some ⟨blk, off, none⟩) d.size cap, .int .i64 ((m : Int) + 1), .int .i64 b', .int .i64 lim'] w7 fun e w' => e = .returned (.tuple #[]) ∧ ∃ d', PermIn (m + 1) b' d4 d' ∧ SortedIn ltInt (m + 1) b' d' ∧ RowH w7 blk off d' w') := hr
                  clear hl hr
                  go_wp2_with fail
                  · refine Calls.mono HL.out ?_
                    rintro e w8 ⟨rfl, d5, hp5, hs5, hw8⟩
                    go_wp2_with fail
                    go_roundw
                    case rel => exact ⟨m + 1, b', lim', _, r, d5, by go_num, rfl, rfl, rfl, rfl, hlim, HP4.out.right hb HPT.out hp5 hs5, HR7.out.trans hw8⟩
                    case measure => simp [intOf]; omega
                  · refine Calls.mono HX.out ?_
                    rintro e w8 ⟨rfl, d5, hp5, hs5, hw8⟩
                    go_wp2_with fail
                    go_roundw
                    case rel => exact ⟨a', m, lim', _, r, d5, rfl, rfl, rfl, rfl, rfl, hlim, HP4.out.left hb HPT.out hp5 hs5, HR7.out.trans hw8⟩
                    case measure => simp [intOf]; omega

end Go.Proofs.YtdfnngehhiociaaGreatDoor

namespace Go.Proofs.YtdfnngehhiociaaGreatDoor
open Go.RowKit Go.Sort

abbrev leZ : Int → Int → Bool := fun x y => decide (x ≤ y)

theorem sorted_is {d d' : Array Int} (hp : PermIn 0 d.size d d') (hs : SortedIn ltInt 0 d.size d') : d'.toList = d.toList.mergeSort leZ := by
  have h := sorted_unique_holds (lt := ltInt) swo_ltInt (fun x y h1 h2 => by
    have := not_lt_of h1
    have := not_lt_of h2
    omega) d d' hp hs
  rw [h]
  congr 1
  funext x y
  simp only [ltInt, leZ]
  by_cases hxy : y < x
  · rw [decide_eq_true hxy, decide_eq_false (by omega)]; rfl
  · rw [decide_eq_false hxy, decide_eq_true (by omega)]; rfl

theorem bitLen_small : ∀ n : Fin 50, Lib.bitLen n.val < 100 := by decide

set_option maxRecDepth 100000 in
/-- slices.Sort at runes. -/
theorem sort_rune (blk off cap : Nat) (zs : List Int) (w : World) (hH : Holds (Value.int .i32) w blk off zs.toArray) (hn : zs.Nodup) (hsz : zs.length < 50) :
    Calls Tryz.prog 105 #[.slice (some ⟨blk, off, none⟩) zs.length cap] w fun e w' => e = .returned (.tuple #[]) ∧ RowH w blk off (zs.mergeSort leZ).toArray w' := by
  have hb := bitLen_small ⟨zs.length, hsz⟩
  simp only at hb
  have hP : Calls Tryz.prog 128 #[.slice (some ⟨blk, off, none⟩) zs.length cap, .int .i64 0, .int .i64 zs.length, .int .i64 (Lib.bitLen zs.length : Nat)] w fun e w' => e = .returned (.tuple #[]) ∧ RowH w blk off (zs.mergeSort leZ).toArray w' := by
    have h := pdq_rune 51 blk off cap 0 zs.toArray.size (Lib.bitLen zs.length) zs.toArray w (by simp; omega) hH (Nat.zero_le _) (Nat.le_refl _) (by simpa using hsz) hb ((dist_iff _).2 (by simpa using hn)) (Or.inl rfl)
    rw [List.size_toArray] at h
    refine Calls.mono h ?_
    rintro e w' ⟨rfl, d', hp, hs, hR⟩
    refine ⟨rfl, ?_⟩
    have e : d' = (zs.mergeSort leZ).toArray := by
      have := sorted_is (d := zs.toArray) (d' := d') (by simpa using hp) (by simpa using hs)
      rw [← Array.toArray_toList (xs := d'), this]
    rw [← e]
    exact hR
  have HP : Hid _ := hP
  clear hP hH
  have HL : Hid (∀ w, Calls Tryz.prog 72 #[.int .u64 (zs.length : Int)] w fun e w' => e = .returned (.int .i64 (Lib.bitLen zs.length : Nat)) ∧ w' = w) := fun w => by
    have := Tryz.bits_Len (zs.length : Int) w (by omega) (by omega)
    simpa using this
  have h60 : (zs.length : Int) < 50 := by omega
  go_enter Tryz.func105, Tryz.ntmps105
  go_wp2_with fail
  refine Calls.mono (HL.out _) ?_
  rintro e w' ⟨rfl, rfl⟩
  go_wp2_with fail
  refine Calls.mono HP.out ?_
  rintro e w' ⟨rfl, hR⟩
  go_wp2_with fail
  go_end0
  exact ⟨rfl, hR⟩

set_option maxRecDepth 100000 in
theorem insert_none (w : World) : Calls Tryz.prog 145 #[.slice none 0 0, .int .i64 0, .int .i64 0] w fun e w' => e = .returned (.tuple #[]) ∧ w' = w := by
  go_enter Tryz.func145, Tryz.ntmps145
  go_wp2
  refine wp_loop_rounds 1 ?_
  rw [rounds_succ]
  go_wp2
  go_end0
  exact ⟨rfl, rfl⟩

set_option maxRecDepth 100000 in
theorem sort_none (w : World) : Calls Tryz.prog 105 #[.slice none 0 0] w fun e w' => e = .returned (.tuple #[]) ∧ w' = w := by
  have hP : Calls Tryz.prog 128 #[.slice none 0 0, .int .i64 0, .int .i64 0, .int .i64 0] w fun e w' => e = .returned (.tuple #[]) ∧ w' = w := by
    go_enter Tryz.func128, Tryz.ntmps128
    go_wp2
    refine wp_loop_rounds 1 ?_
    rw [rounds_succ]
    go_wp2_with (go_at_call 145; refine (insert_none _).mono ?_; rintro e w' ⟨rfl, rfl⟩)
    (try simp only [Exit.inBlock, Exit.then])
    refine bodyPost_ret (results_none rfl _ _ _) rfl ?_
    exact ⟨rfl, rfl⟩
  have HP : Hid _ := hP
  clear hP
  have HL : Hid (∀ w, Calls Tryz.prog 72 #[.int .u64 0] w fun e w' => e = .returned (.int .i64 0) ∧ w' = w) := fun w => by
    have h := Tryz.bits_Len 0 w (by omega) (by omega)
    rw [show Lib.bitLen (0 : Int).toNat = 0 by decide] at h
    exact h
  go_enter Tryz.func105, Tryz.ntmps105
  go_wp2_with fail
  refine Calls.mono (HL.out _) ?_
  rintro e w' ⟨rfl, rfl⟩
  go_wp2_with fail
  refine Calls.mono HP.out ?_
  rintro e w' ⟨rfl, rfl⟩
  go_wp2_with fail
  go_end0
  exact ⟨rfl, rfl⟩

end Go.Proofs.YtdfnngehhiociaaGreatDoor

namespace Go.Proofs.YtdfnngehhiociaaGreatDoor
open Go.RowKit Go.Maps Go.Shelf

abbrev encR : Int → Value := Value.int .i32

theorem keyOf_rune {key : Value} {kl : Lit} (h : keyOf Tryz.prog 21 key = some kl) : ∃ x : Int, key = encR x ∧ kl = .int .i32 x := by
  have hk : Tryz.prog.underlying 21 = some (.int .i32) := Tryz.underlying21
  cases key <;> simp [keyOf, hk, mapKey] at h
  rename_i q a
  obtain ⟨⟨rfl, hw⟩, rfl⟩ := h
  exact ⟨a, rfl, rfl⟩

/-- No key twice; a key has come just where the map has it and it is not still to come. -/
def Came {H : Type} (D0 : DataW H) (left : Lit → Bool) (ss : List Int) : Prop := ss.Nodup ∧ ∀ x, x ∈ ss ↔ (has D0 (.int .i32 x) = true ∧ left (.int .i32 x) = false)

section
variable {H : Type} {D0 : DataW H} {left : Lit → Bool} {ss : List Int}

theorem Came.start (D0 : DataW H) : Came D0 (has D0) [] := ⟨List.nodup_nil, fun x => by cases has D0 (.int .i32 x) <;> simp⟩

theorem Came.step (h : Came D0 left ss) {x : Int} {y : DataW H} (hlk : left (.int .i32 x) = true) (hat : ∀ zd, D0.atKey (.int .i32 x) zd = y) : Came D0 (fun z => left z && !z.sameKey (.int .i32 x)) (ss ++ [x]) := by
  have hhas : has D0 (.int .i32 x) = true := has_true_of_atKey hat
  have hnew : x ∉ ss := fun hx => by
    have := ((h.2 x).1 hx).2
    rw [hlk] at this; cases this
  refine ⟨List.nodup_append.2 ⟨h.1, by simp, fun a ha b hb => by simp at hb; subst hb; exact fun e => hnew (e ▸ ha)⟩, fun z => ?_⟩
  by_cases hz : z = x
  · subst hz; simp [hhas, Lit.sameKey]
  · simp [h.2 z, hz, Lit.sameKey]
end

/-- These are the keys. -/
def AllKeys {H : Type} (D0 : DataW H) (ss : List Int) : Prop := ss.Nodup ∧ ∀ x, x ∈ ss ↔ has D0 (.int .i32 x) = true

set_option maxRecDepth 100000 in
set_option maxHeartbeats 1000000 in
/-- What maps.Keys hands back, called: the keys come, each once; or it is told to stop. -/
theorem keys1_rune {H : Type} (n : Nat) (hn : 1 ≤ n) (l Bm b nn : Nat) (D0 : DataW H) {R : Value → Option (DataW H × List MemPlace)} (J Jx : List Int → World → Prop)
    (hY : ∀ pre x W, J pre W → pre.length < Maps.size D0 → YieldAt Fence.wide (n - 1) Tryz.prog l #[encR x] W fun e W' =>
      (e = .returned (.bool true) ∧ J (pre ++ [x]) W' ∧ KeepsWalks W W') ∨ (e = .returned (.bool false) ∧ Jx (pre ++ [x]) W'))
    (W : World) (hJ : AbidesFrom W.heap.size J) (hm : W.cell? ⟨Bm, 0, none⟩ = some (.map (some b))) (hown : W.ownsMap Tryz.prog 21 R b nn D0) (h0 : J [] W) :
    CallsIn Fence.wide n Tryz.prog 106 #[.func (.yield l) #[] #[], .pointer (some ⟨Bm, 0, none⟩)] W fun e W' => (∃ v, e = .returned v) ∧
      ((∃ ss : List Int, AllKeys D0 ss ∧ J ss W') ∨ (∃ pre : List Int, True ∧ Jx pre W')) := by
  refine callsIn_of_wp Tryz.func106 rfl trivial ?_ rfl
  simp only [Tryz.ntmps106, List.size_toArray, List.length_cons, List.length_nil, Nat.reduceAdd, Nat.reduceSub, Array.replicate_succ, Array.replicate_zero, List.push_toArray, List.append_toArray, List.nil_append, List.cons_append]
  gi_wp2_with (first
    | (gi_at_range; refine wpListIn_range_own _ rfl _ 126 rfl 21 26 (int_keyed Tryz.underlying21) Tryz.underlying126 _ b nn _ rfl hown ?_; intro w0 hrg0 hg0 hs0)
    | gi_in)
  go_frame
  gi_loopw [3] (fun _ wr => ∃ (left : Lit → Bool) (cnt : Nat) (ss : List Int), wr.ranges Tryz.prog 21 R b W.heap.size nn D0 left cnt ∧ ss.length + cnt ≤ Maps.size D0 ∧ Came D0 left ss ∧ J ss wr)
    (fun _ wr => wr.rangeLeft b W.heap.size)
  case atStart =>
    exact ⟨_, _, [], hrg0, by simp, Came.start D0, hJ [] W w0 none h0 hg0 (fun r e => by cases e)⟩
  case round =>
    obtain ⟨left, cnt, ss, hrg, hcs, hC, hJs⟩ := hrel
    gi_wp2_with (first
      | (gi_at_next; refine wpListIn_next_ranges _ rfl _ rfl 21 (int_keyed Tryz.underlying21) R encR id (fun key kl hk => by obtain ⟨x, hx, _⟩ := keyOf_rune hk; exact ⟨x, hx⟩) (fun v _ _ => ⟨v, rfl⟩) b W.heap.size nn _ _ _ rfl hrg ?_ ?_)
      | gi_in)
    · intro hc0 hl0
      gi_wp2
      go_end0
      exact ⟨⟨_, rfl⟩, .inl ⟨ss, ⟨hC.1, fun x => by rw [hC.2 x, hl0]; simp⟩, hJs⟩⟩
    · intro x c kl yd yp w2 cnt2 hkey hlk hv hat hrg2 hlt hg2 hs2 hen
      obtain ⟨x', ex, rfl⟩ := keyOf_rune hkey
      obtain rfl : x = x' := by simpa [encR] using ex
      have hJ2 : J ss w2 := hJ ss wr w2 (some W.heap.size) hJs hg2 (fun r e => by cases e; exact ⟨Nat.le_refl _, hrg.iter_walk⟩)
      obtain ⟨fn, tmps, assign, body, hy, hR⟩ := hY ss x w2 hJ2 (by omega)
      clear hs2
      gi_wp2
      refine hR.mono ?_
      have hC2 := hC.step hlk hat
      rintro e W3 (⟨rfl, hJ3, hk3⟩ | ⟨rfl, hJx3⟩)
      · gi_wp2
        have hrg3 := hrg2.of_walks hk3
        go_roundw
        case rel => exact ⟨_, cnt2, ss ++ [x], hrg3, by simp; omega, hC2, hJ3⟩
        case measure => rw [hrg3.left_eq, hrg.left_eq]; exact hlt
      · gi_wp2
        refine bodyPost_ret (results_none rfl _ _ _) rfl ?_
        exact ⟨⟨_, rfl⟩, .inr ⟨ss ++ [x], trivial, hJx3⟩⟩

theorem keys_stops {H : Type} (n : Nat) (hn : 1 ≤ n) (Bm b nn : Nat) (D0 : DataW H) {R : Value → Option (DataW H × List MemPlace)} (w : World) (hBm : Bm < w.heap.size) (hm : w.cell? ⟨Bm, 0, none⟩ = some (.map (some b))) (hown : w.ownsMap Tryz.prog 21 R b nn D0) :
    SeqStopsK Fence.wide n Tryz.prog 106 #[.pointer (some ⟨Bm, 0, none⟩)] (fun x : Int => #[encR x]) KeepsWalks (AllKeys D0) (fun _ => True) (Maps.size D0) w := fun l J Jx W hW hJ _ hY h0 => by
  have hown' : W.ownsMap Tryz.prog 21 R b nn D0 := by
    have hbl := hown.lt
    obtain ⟨es, clock, hb, Ft, hs, hD⟩ := hown
    exact ⟨es, clock, (hW.block b hbl).trans hb, Ft, hs, hD⟩
  exact keys1_rune n hn l Bm b nn D0 J Jx hY W hJ ((hW.cell (p := ⟨Bm, 0, none⟩) hBm).trans hm) hown' h0

end Go.Proofs.YtdfnngehhiociaaGreatDoor

namespace Go.Proofs.YtdfnngehhiociaaGreatDoor
open Go.RowKit Go.Maps Go.Shelf

theorem info21 : (Tryz.prog.info? 21).map (fun i => (i.zero, i.size, i.bytes)) = some (some (.int .i32 0), 1, 4) := by kernel_rfl

set_option maxRecDepth 100000 in
set_option maxHeartbeats 2000000 in
theorem append_seq {H : Type} (n : Nat) (hn : 3 ≤ n) (Bm b nn : Nat) (D0 : DataW H) {R : Value → Option (DataW H × List MemPlace)} (w : World) (hBm : Bm < w.heap.size) (hm : w.cell? ⟨Bm, 0, none⟩ = some (.map (some b))) (hown : w.ownsMap Tryz.prog 21 R b nn D0) (hsz : Maps.size D0 < 50) :
    CallsIn Fence.wide n Tryz.prog 127 #[.slice none 0 0, .func (.func 106) #[] #[.pointer (some ⟨Bm, 0, none⟩)]] w fun e W' => ∃ v ss, e = .returned v ∧ AllKeys D0 ss ∧ W'.ownsRow w.heap.size 21 1 v ss.length (ss.map encR) ∧ (v = .slice none 0 0 ↔ ss = []) ∧ Below w.heap.size w W' := by
  have h1 : 1 ≤ n := by omega
  obtain ⟨i0, hi, hz0, hz1, hz2⟩ := info_parts info21
  have bO := Boxed.new w 83 (.slice none 0 0)
  have hB0 : Below w.heap.size w (w.alloc (.cells #[.slice none 0 0] 83)) := (Below.refl _ w).alloc (Nat.le_refl _) _
  have hown1 : (w.alloc (.cells #[.slice none 0 0] 83)).ownsMap Tryz.prog 21 R b nn D0 := hown.kept (World.grownBy_alloc w _ none) (by simp)
  have hm1 : (w.alloc (.cells #[.slice none 0 0] 83)).cell? ⟨Bm, 0, none⟩ = some (.map (some b)) := (hB0.cell (p := ⟨Bm, 0, none⟩) hBm).trans hm
  refine callsIn_of_wp_marks Tryz.func127 rfl trivial ?_ rfl
  simp only [Tryz.ntmps127, List.size_toArray, List.length_cons, List.length_nil, Nat.reduceAdd, Nat.reduceSub, Array.replicate_succ, Array.replicate_zero, List.push_toArray, List.append_toArray, List.nil_append, List.cons_append]
  gi_wp2
  refine wpIn_rangeFunc_ownG rfl h1 (gf := 106) (lb := #[.pointer (some ⟨Bm, 0, none⟩)]) rfl trivial (enters_of Tryz.func106 (by kernel_rfl) rfl)
    (keys_stops (n - 1) (by omega) Bm b nn D0 _ (by simp; omega) hm1 hown1) walksK_t walksK_b (Below.refl _ _) (fun _ => rfl)
    (fun pre W => (∃ v, Boxed W w.heap.size 83 v ∧ W.ownsRow w.heap.size 21 1 v pre.length (pre.map encR) ∧ (v = .slice none 0 0 ↔ pre = [])) ∧ Below w.heap.size w W)
    (fun _ _ _ => False)
    (OwnFrom.and (Own.from (holdsRow_own w.heap.size w.heap.size 83 21 1 (fun pre : List Int => pre.length) (fun pre => pre.map encR) (fun pre v => v = .slice none 0 0 ↔ pre = [])) _) (ownFrom_below (Nat.le_refl _) (by simp)))
    (fun _ _ _ _ _ hs _ _ => hs)
    ⟨⟨_, bO, World.ownsRow_nil _ _ _ _, by simp⟩, hB0⟩
    (fun x => { tmps := #[.slice none 0 0, .func (.func 106) #[] #[.pointer (some ⟨Bm, 0, none⟩)], .pointer (some ⟨w.heap.size, 0, none⟩), undef, .slice none 0 0, encR x, .func (.func 106) #[] #[.pointer (some ⟨Bm, 0, none⟩)], encR x, undef, undef, undef, undef, undef], defers := [] }) ?assign ?body ?done ?stop
  case assign =>
    intro l x W K hK
    gi_wp2_with gi_round_op_a
    exact hK
  case body =>
    rintro l pre x W ⟨⟨v, hv, hrow, hnil⟩, hB⟩ hlt
    have hc := hv.cell
    gi_wp2_with (first
      | (gi_at_builtin; refine wpListIn_append_own _ rfl _ _ 83 rfl w.heap.size 21 i0 (.int .i32 0) 1 4 Tryz.underlying83 hi hz0 hz1 hz2 rfl (by decide) _ _ _ rfl (hrow.alloc _) ⟨W.heap.size, 0, none⟩ 1 1 [encR x] rfl rfl (cell_one_new _ _ _) (by simp [Value.oneCell', encR]) (by unfold maxLen; omega) (by omega) (by have := hB.size; simp; omega) ?_; intro v' w1 hown' hgrow _; obtain ⟨g', cap', rfl⟩ := ownsRow_succ hown'; obtain ⟨hv1, hv2, hr2, hk2, hb2⟩ := hv.appended (by decide) hrow hB.size (Nat.le_refl _) hown' hgrow; have hc1 := hv1.cell; have hf1 := hv1.frozen)
      | gi_round_op_a)
    exact ⟨hk2.from _, hk2.walks, ⟨_, hv2, by simpa using hr2, by simp⟩, hB.trans hb2⟩
  case done =>
    rintro D ys W hD hS ⟨⟨v, hv, hrow, hnil⟩, hB⟩ hK
    have hc := hv.cell
    gi_wp2
    refine ⟨by simp, .inl ⟨_, _, rfl, run_takeDeferred hK, ?_⟩⟩
    exact ⟨_, results_tmp rfl _ _ _, v, ys, rfl, hS, ownsRow_putObj hrow _ hK rfl, hnil, hB.trans (belowK_b (w := w) (Nat.le_refl _) W D _ _ (by simp at hD; omega) hK rfl rfl)⟩
  case stop =>
    rintro D c pre W _ _ h _
    exact h.elim

end Go.Proofs.YtdfnngehhiociaaGreatDoor

namespace Go.Proofs.YtdfnngehhiociaaGreatDoor
open Go.RowKit Go.Maps Go.Sort Go.Shelf

/-- A slice of these runes lies there. -/
def RuneRow (w : World) (v : Value) (zs : List Int) : Prop :=
  (v = .slice none 0 0 ∧ zs = []) ∨ ∃ g cap c, v = .slice (some ⟨g, 0, none⟩) zs.length cap ∧ w.heap[g]? = some (.cells c 21 (0, 0)) ∧ ∀ j, j < zs.length → w.cell? ⟨g, j, none⟩ = some (.int .i32 (zs.getD j 0))

theorem RuneRow.kept {w w' : World} {v : Value} {zs : List Int} (h : RuneRow w v zs) (hg : w.grownBy w' none) : RuneRow w' v zs := by
  rcases h with h | ⟨g, cap, c, hv, hb, hc⟩
  · exact Or.inl h
  · exact Or.inr ⟨g, cap, c, hv, (hg.block g (Array.getElem?_eq_some_iff.1 hb).1 (by simp)).trans hb, fun j hj => hg.cell (hc j hj) (by simp)⟩

theorem keys_rune (mb : Option Nat) (W : World) : Calls Tryz.prog 80 #[.map mb] W fun e w' => e = .returned (.func (.func 106) #[] #[.pointer (some ⟨W.heap.size, 0, none⟩)]) ∧ w' = W.alloc (.cells #[.map mb] 126) := by
  have hmf : ∀ (fn : Fn) (first cap : Array Value) (w : World), (Instr.makeFunc fn first cap).run Tryz.prog w = .ok (.func fn first cap) w := fun _ _ _ _ => rfl
  go_enter Tryz.func80, Tryz.ntmps80
  go_wp2
  go_ret
  exact ⟨rfl, rfl⟩

set_option maxRecDepth 100000 in
theorem collect_rune {H : Type} (Bm b nn : Nat) (D0 : DataW H) {R : Value → Option (DataW H × List MemPlace)} (w : World) (hBm : Bm < w.heap.size) (hm : w.cell? ⟨Bm, 0, none⟩ = some (.map (some b))) (hown : w.ownsMap Tryz.prog 21 R b nn D0) (hsz : Maps.size D0 < 50) :
    Calls Tryz.prog 104 #[.func (.func 106) #[] #[.pointer (some ⟨Bm, 0, none⟩)]] w fun e W' => ∃ v ss, e = .returned v ∧ AllKeys D0 ss ∧ W'.ownsRow w.heap.size 21 1 v ss.length (ss.map encR) ∧ (v = .slice none 0 0 ↔ ss = []) ∧ Below w.heap.size w W' := by
  have hc := callsIn_wide.1 (append_seq 3 (Nat.le_refl _) Bm b nn D0 w hBm hm hown hsz)
  have HC : Hid _ := hc
  clear hc
  go_enter Tryz.func104, Tryz.ntmps104
  go_wp2_with fail
  refine Calls.mono HC.out ?_
  rintro e w' ⟨v, ss, rfl, h1, h2, h3, h4⟩
  go_wp2_with fail
  go_ret
  exact ⟨v, ss, rfl, h1, h2, h3, h4⟩

theorem keys_perm {H : Type} {D0 : DataW H} {ss K : List Int} (h : AllKeys D0 ss) (hK : K.Nodup) (hhas : ∀ x, has D0 (.int .i32 x) = true ↔ x ∈ K) : ss.Perm K :=
  (List.perm_ext_iff_of_nodup h.1 hK).2 fun x => (h.2 x).trans (hhas x)

theorem merge_perm {l l' : List Int} (h : l.Perm l') : l.mergeSort leZ = l'.mergeSort leZ := by
  have tr : ∀ a b c : Int, leZ a b = true → leZ b c = true → leZ a c = true := fun a b c h1 h2 => by simp only [leZ, decide_eq_true_eq] at *; omega
  have to : ∀ a b : Int, (leZ a b || leZ b a) = true := fun a b => by simp only [leZ, Bool.or_eq_true, decide_eq_true_eq]; omega
  refine List.Perm.eq_of_pairwise (le := fun a b => leZ a b = true) (fun a b _ _ h1 h2 => ?_) (List.pairwise_mergeSort tr to l) (List.pairwise_mergeSort tr to l') (((List.mergeSort_perm l leZ).trans h).trans (List.mergeSort_perm l' leZ).symm)
  simp only [leZ, decide_eq_true_eq] at h1 h2
  omega

theorem row_of_holds {w : World} {g cap : Nat} {zs : List Int} {c : Array Value} (h : Holds (Value.int .i32) w g 0 zs.toArray) (hb : w.heap[g]? = some (.cells c 21 (0, 0))) : RuneRow w (.slice (some ⟨g, 0, none⟩) zs.length cap) zs :=
  Or.inr ⟨g, cap, c, rfl, hb, fun j hj => by
    have := (h j (by simpa using hj)).1
    rw [Nat.zero_add] at this
    rw [this]
    simp [List.getD, hj]⟩

set_option maxRecDepth 100000 in
/-- slices.Sorted at what maps.Keys handed back. -/
theorem sorted_rune {H : Type} (Bm b nn : Nat) (D0 : DataW H) {R : Value → Option (DataW H × List MemPlace)} (K : List Int) (w : World) (hBm : Bm < w.heap.size) (hm : w.cell? ⟨Bm, 0, none⟩ = some (.map (some b))) (hown : w.ownsMap Tryz.prog 21 R b nn D0)
    (hsz : Maps.size D0 < 50) (hK : K.Nodup) (hhas : ∀ x, has D0 (.int .i32 x) = true ↔ x ∈ K) (hKl : K.length < 50) :
    Calls Tryz.prog 79 #[.func (.func 106) #[] #[.pointer (some ⟨Bm, 0, none⟩)]] w fun e w' => ∃ v, e = .returned v ∧ RuneRow w' v (K.mergeSort leZ) ∧ w.grownBy w' none := by
  have HC : Hid _ := collect_rune Bm b nn D0 w hBm hm hown hsz
  go_enter Tryz.func79, Tryz.ntmps79
  go_wp2_with fail
  refine Calls.mono HC.out ?_
  rintro e w1 ⟨v, ss, rfl, hA, hrow, hnil, hb⟩
  have hp := keys_perm hA hK hhas
  have hg1 : w.grownBy w1 none := below_grownBy hb none
  rcases hrow.2 with ⟨rfl, hz⟩ | ⟨g, cap, cur, rfl, hbase, hgb, r1, r2, r3, r4⟩
  · have hss : ss = [] := List.eq_nil_of_length_eq_zero hz
    subst hss
    have hKn : K = [] := hp.symm.eq_nil
    subst hKn
    go_wp2_with (go_at_call 105; refine (sort_none _).mono ?_; rintro e w2 ⟨rfl, rfl⟩)
    go_ret
    exact ⟨_, rfl, Or.inl ⟨rfl, by simp⟩, hg1⟩
  · have hH : Holds (Value.int .i32) w1 g 0 ss.toArray := by
      intro j hj
      have hj' : j < ss.length := by simpa using hj
      refine ⟨?_, by simp [World.frozen?, hgb]⟩
      rw [Nat.zero_add, hrow.cellAt j (by omega)]
      simp [hj']
    have HS : Hid _ := sort_rune g 0 cap ss w1 hH hA.1 (by rw [hp.length_eq]; exact hKl)
    clear hH
    go_wp2_with fail
    refine Calls.mono HS.out ?_
    rintro e w2 ⟨rfl, hR⟩
    go_wp2_with fail
    go_ret
    refine ⟨_, rfl, ?_, hg1.andThen hR.grown (fun j hj => Or.inl (by cases hj; exact hbase))⟩
    rw [← merge_perm hp]
    obtain ⟨c', hc'⟩ := hR.typ _ _ _ hgb
    have h := row_of_holds (cap := cap) hR.holds hc'
    rw [show (ss.mergeSort leZ).length = ss.length by simp] at h
    exact h

end Go.Proofs.YtdfnngehhiociaaGreatDoor
