import Derived.Test.YtdfnngehhiociaaGreatDoorWithin
import Derived.Test.YtdfnngehhiociaaGreatDoorPure
import Derived.Test.YtdfnngehhiociaaGreatDoorRuns
namespace Go.Proofs.YtdfnngehhiociaaGreatDoor
open Go.RowKit Go.Maps Go.WideMaps
open Go.Proofs (encStr)

/-! The key of a list of words. -/

def keyB (W : List Rs) : Bs := W.flatMap fun r => encW r ++ [10]

/-- Runes that may stand in a word. -/
def FineW (r : Rs) : Prop := ∀ x ∈ r, RuneOk x ∧ 32 < x
def Fine (W : List Rs) : Prop := ∀ r ∈ W, FineW r

theorem FineW.ok {r : Rs} (h : FineW r) : ∀ x ∈ r, RuneOk x := fun x hx => (h x hx).1

theorem encode_no_nl {x : Int} (h : RuneOk x) (h32 : 32 < x) : (10 : UInt8) ∉ Lib.encodeRune x := by
  intro hm
  unfold Lib.encodeRune at hm
  obtain ⟨y, hy, e⟩ := List.mem_map.1 hm
  have hb := Lib.encodeRuneZ_byte x y hy
  have e2 : y.toNat = 10 := by
    have := congrArg UInt8.toNat e
    rw [toNat_byte hb.1 hb.2] at this
    exact this
  unfold Lib.encodeRuneZ at hy
  obtain ⟨h0, hs, h1⟩ := h
  repeat' split at hy
  all_goals simp only [List.mem_cons, List.mem_nil_iff, or_false] at hy
  all_goals omega

theorem encW_no_nl {r : Rs} (h : FineW r) : (10 : UInt8) ∉ encW r := by
  intro hm
  obtain ⟨x, hx, hy⟩ := List.mem_flatMap.1 hm
  exact encode_no_nl (h x hx).1 (h x hx).2 hy

theorem split_nl : ∀ (a b s t : Bs), (10 : UInt8) ∉ a → (10 : UInt8) ∉ b → a ++ 10 :: s = b ++ 10 :: t → a = b ∧ s = t
  | [], [], s, t, _, _, h => ⟨rfl, by simpa using h⟩
  | [], y :: b, s, t, _, hb, h => by
    simp only [List.nil_append, List.cons_append, List.cons.injEq] at h
    exact absurd (by rw [h.1]; exact List.mem_cons_self ..) hb
  | x :: a, [], s, t, ha, _, h => by
    simp only [List.nil_append, List.cons_append, List.cons.injEq] at h
    exact absurd (by rw [← h.1]; exact List.mem_cons_self ..) ha
  | x :: a, y :: b, s, t, ha, hb, h => by
    simp only [List.cons_append, List.cons.injEq] at h
    obtain ⟨e1, e2⟩ := split_nl a b s t (fun hm => ha (List.mem_cons_of_mem _ hm)) (fun hm => hb (List.mem_cons_of_mem _ hm)) h.2
    exact ⟨by rw [h.1, e1], e2⟩

theorem keyB_cons (r : Rs) (W : List Rs) : keyB (r :: W) = encW r ++ 10 :: keyB W := by simp [keyB]

theorem keyB_inj : ∀ (V W : List Rs), Fine V → Fine W → keyB V = keyB W → V = W
  | [], [], _, _, _ => rfl
  | [], r :: W, _, _, h => by
    rw [keyB_cons] at h
    have := congrArg List.length h
    simp [keyB] at this
  | r :: V, [], _, _, h => by
    rw [keyB_cons] at h
    have := congrArg List.length h
    simp [keyB] at this
  | r :: V, s :: W, hV, hW, h => by
    rw [keyB_cons, keyB_cons] at h
    have hr := hV r (List.mem_cons_self ..)
    have hs := hW s (List.mem_cons_self ..)
    obtain ⟨e1, e2⟩ := split_nl _ _ _ _ (encW_no_nl hr) (encW_no_nl hs) h
    rw [encW_inj hr.ok hs.ok e1, keyB_inj V W (fun q hq => hV q (List.mem_cons_of_mem _ hq)) (fun q hq => hW q (List.mem_cons_of_mem _ hq)) e2]

theorem keyB_take (W : List Rs) (k : Nat) (hk : k < W.length) : keyB (W.take (k + 1)) = keyB (W.take k) ++ (encW (W.getD k []) ++ [10]) := by
  have e : W.take (k + 1) = W.take k ++ [W.getD k []] := by
    rw [List.take_add_one]
    simp [List.getD, hk]
  rw [e]
  simp [keyB]

/-! The numbers by the keys. -/

def tabR (F : List (List Rs)) : List (Bs × Nat) := F.mapIdx fun i W => (keyB W, i)

theorem tabR_snoc (F : List (List Rs)) (W : List Rs) : tabR (F ++ [W]) = tabR F ++ [(keyB W, F.length)] := by simp [tabR, List.mapIdx_append]
theorem tabR_length (F : List (List Rs)) : (tabR F).length = F.length := by simp [tabR]
theorem tabR_mem {F : List (List Rs)} {W : List Rs} (h : W ∈ F) : (keyB W, F.idxOf W) ∈ tabR F := by
  have hl := List.idxOf_lt_length_of_mem h
  unfold tabR
  rw [List.mem_mapIdx]
  refine ⟨F.idxOf W, hl, ?_⟩
  rw [List.getElem_idxOf hl]
theorem tabR_key {F : List (List Rs)} {x : Bs} (h : x ∈ (tabR F).map Prod.fst) : ∃ V ∈ F, keyB V = x := by
  obtain ⟨q, hq, rfl⟩ := List.mem_map.1 h
  unfold tabR at hq
  rw [List.mem_mapIdx] at hq
  obtain ⟨i, hi, rfl⟩ := hq
  exact ⟨F[i], List.getElem_mem hi, rfl⟩

/-! What a call of number, or of state, leaves as it was. -/

structure Fr (mb : Nat) (w w' : World) : Prop where
  os : w'.os = w.os
  tape : w'.tape = w.tape
  output : w'.output = w.output
  size : w.heap.size ≤ w'.heap.size
  block : ∀ k o, w.heap[k]? = some o → k ≠ mb → (∀ c f, o ≠ .cells c 88 f) → (∀ c f, o ≠ .cells c 26 f) → w'.heap[k]? = some o

theorem Fr.refl (mb : Nat) (w : World) : Fr mb w w := ⟨rfl, rfl, rfl, Nat.le_refl _, fun _ _ h _ _ _ => h⟩
theorem Fr.trans {mb : Nat} {a b c : World} (h : Fr mb a b) (k : Fr mb b c) : Fr mb a c :=
  ⟨k.os.trans h.os, k.tape.trans h.tape, k.output.trans h.output, Nat.le_trans h.size k.size, fun i o hi h1 h2 h3 => k.block i o (h.block i o hi h1 h2 h3) h1 h2 h3⟩
theorem Fr.of {mb : Nat} {w w' : World} {row : Option Nat} (hg : w.grownBy w' row) (hr : ∀ j, row = some j → j = mb ∨ ∃ o, w.heap[j]? = some o ∧ ((∃ c f, o = .cells c 88 f) ∨ ∃ c f, o = .cells c 26 f)) : Fr mb w w' :=
  ⟨hg.os, hg.tape, hg.output, hg.size, fun k o hk h1 h2 h3 => by
    refine (hg.block k (Array.getElem?_eq_some_iff.1 hk).1 fun e => ?_).trans hk
    rcases hr k e.symm with rfl | ⟨o', ho', ⟨c, f, rfl⟩ | ⟨c, f, rfl⟩⟩
    · exact h1 rfl
    · rw [hk] at ho'; cases ho'; exact h2 _ _ rfl
    · rw [hk] at ho'; cases ho'; exact h3 _ _ rfl⟩
theorem Fr.none {mb : Nat} {w w' : World} (hg : w.grownBy w' none) : Fr mb w w' := Fr.of hg fun j e => by cases e

theorem Fr.row {mb : Nat} {w w' : World} (h : Fr mb w w') {base : Nat} {e : TypeId} {size : Nat} {v : Value} {n : Nat} {xs : List Value} (hr : w.ownsRow base e size v n xs) (h1 : e ≠ 88) (h2 : e ≠ 26) (hmb : ∀ c f, w.heap[mb]? ≠ some (.cells c e f)) : w'.ownsRow base e size v n xs := by
  refine ⟨hr.1, ?_⟩
  rcases hr.2 with h0 | ⟨g, cap, cur, hv, hb, hg, rest⟩
  · exact Or.inl h0
  · refine Or.inr ⟨g, cap, cur, hv, hb, h.block g _ hg ?_ ?_ ?_, rest⟩
    · intro e'; subst e'; exact hmb _ _ hg
    · intro c f e'; injection e' with _ e2; exact h1 e2
    · intro c f e'; injection e' with _ e2; exact h2 e2

/-- A slice of these words lies there. -/
def StrR (w : World) (u : Value) (W : List Rs) : Prop := w.ownsRow 0 9 1 u W.length (W.map fun r => encStr (encW r))

theorem IsFound.obj {w : World} {b : Nat} {M : List (Bs × Nat)} (h : IsFound w b M) : ∃ es clock, w.heap[b]? = some (.map es clock) := by
  obtain ⟨D, ⟨es, clock, hb, _⟩, _⟩ := h
  exact ⟨es, clock, hb⟩

theorem StrR.fr {mb : Nat} {w w' : World} {u : Value} {W : List Rs} (h : StrR w u W) (hf : Fr mb w w') (hm : ∃ es clock, w.heap[mb]? = some (.map es clock)) : StrR w' u W :=
  hf.row h (by decide) (by decide) fun c f e => by
    obtain ⟨es, clock, hb⟩ := hm
    rw [hb] at e; cases e

/-- The numbers lie there. -/
structure Numb (n0 : Nat) (w : World) (B mb : Nat) (F : List (List Rs)) : Prop where
  loB : n0 ≤ B
  loM : n0 ≤ mb
  found : IsFound w mb (tabR F)
  row : ∃ v vs, w.heap[B]? = some (.cells #[.map (some mb), v] 88 (0, 0)) ∧ w.ownsRow n0 26 1 v F.length vs ∧ ∀ i, i < F.length → ∃ u, vs[i]? = some u ∧ StrR w u (F.getD i [])

theorem bytes_str (l : Bs) : bs ⟨l.toArray⟩ = l := rfl


end Go.Proofs.YtdfnngehhiociaaGreatDoor

namespace Go.Proofs.YtdfnngehhiociaaGreatDoor
open Go.RowKit Go.Maps Go.WideMaps
open Go.Proofs (encStr)

theorem keyB_take_le (W : List Rs) (k : Nat) : (keyB (W.take k)).length ≤ (keyB W).length := by
  have e : keyB W = keyB (W.take k) ++ keyB (W.drop k) := by
    unfold keyB
    rw [← List.flatMap_append, List.take_append_drop]
  rw [e, List.length_append]
  omega

theorem bytes_append (a b : Bs) : ((⟨a.toArray⟩ : ByteArray) ++ (⟨b.toArray⟩ : ByteArray)) = ⟨(a ++ b).toArray⟩ := by
  apply ByteArray.ext
  simp

theorem Numb.ne {n0 : Nat} {w : World} {B mb : Nat} {F : List (List Rs)} (h : Numb n0 w B mb F) : mb ≠ B := by
  obtain ⟨es, clock, hb⟩ := h.found.obj
  obtain ⟨v, vs, h1, _⟩ := h.row
  intro e
  subst e
  rw [hb] at h1
  cases h1

theorem idx_new {F : List (List Rs)} {W : List Rs} (h : W ∉ F) : F.idxOf W = F.length := List.idxOf_eq_length h

theorem info26 : (Tryz.prog.info? 26).map (fun i => (i.zero, i.size, i.bytes)) = some (some (.slice none 0 0), 1, 24) := by kernel_rfl

theorem slice_new (w : World) (u : Value) (t : TypeId) : ∀ j x, ([u] : List Value)[j]? = some x → (w.alloc (.cells #[u] t)).cell? ((⟨w.heap.size, 0, none⟩ : Addr).add j) = some x := by
  intro j x hx
  rw [Addr.add_mid, Nat.zero_add, cell_of_row _ _ _ _ t (0, 0) (Go.heap_alloc_new w _)]
  simpa using hx

set_option maxHeartbeats 1000000 in
set_option maxRecDepth 100000 in
theorem number_some (n0 B mb g cap : Nat) (F : List (List Rs)) (W : List Rs) (w : World) (hN : Numb n0 w B mb F) (hW : StrR w (.slice (some ⟨g, 0, none⟩) W.length cap) W) (hF : ∀ V ∈ F, Fine V) (hFW : Fine W) (hFl : F.length < 100000) (hkl : (keyB W).length ≤ 100000)
    (hWl : W.length < 1000) (hn0 : n0 ≤ w.heap.size) :
    Calls Tryz.prog 57 #[.pointer (some ⟨B, 0, none⟩), .slice (some ⟨g, 0, none⟩) W.length cap] w fun e w' => e = .returned (.int .i64 (F.idxOf W : Nat)) ∧ Numb n0 w' B mb (meetR F W) ∧ Fr mb w w' ∧ Below n0 w w' := by
  have hcells : ∀ k, k < W.length → w.cell? ⟨g, k, none⟩ = some (encStr (encW (W.getD k []))) := fun k hk => by
    rw [World.ownsRow.cellAt hW k (by omega)]
    simp [List.getD, hk]
  have HC := hide hcells
  clear hcells
  have HN := hide hN
  have HWR := hide hW
  obtain ⟨vf, vs, hB, hrow, hvs⟩ := hN.row
  have c0 : w.cell? ⟨B, 0, none⟩ = some (.map (some mb)) := by rw [cell_of_row _ _ _ _ _ _ hB]; rfl
  have c1 : w.cell? ⟨B, 1, none⟩ = some vf := by rw [cell_of_row _ _ _ _ _ _ hB]; rfl
  obtain ⟨D, d1, d2, d3, d4, d5⟩ := hN.found
  have hkey := keyOf_string_mk (P := Tryz.prog) Tryz.underlying9 (s := ⟨(keyB W).toArray⟩) (by unfold maxLen; show (keyB W).toArray.size ≤ _; simp; omega)
  have HV := hide hvs
  have HB := hide hB
  have HRW := hide hrow
  have HD3 := hide d3
  have HD4 := hide d4
  clear hvs hB hW hrow d3 d4 d2 hN
  go_enter Tryz.func57, Tryz.ntmps57
  go_wp2
  go_loopw [5, 12] (fun s i wr => ∃ k : Nat, k ≤ W.length ∧ i = .int .i64 k ∧ s = encStr (keyB (W.take k)) ∧ wr = w) (fun _ i _ => W.length - (intOf i).toNat)
  case atStart => exact ⟨0, Nat.zero_le _, rfl, rfl, rfl⟩
  case round =>
    obtain ⟨k, hk, rfl, rfl, rfl⟩ := hrel
    by_cases hlt : k < W.length
    · have hc := unhide HC k hlt
      have hkt := keyB_take W k hlt
      have hle := keyB_take_le W (k + 1)
      generalize encW (W.getD k []) = x at hc hkt
      generalize keyB (W.take k) = y at hkt
      rw [hkt, List.length_append, List.length_append, List.length_singleton] at hle
      have hx1 : ¬ 9223372036854775807 < x.length + 1 := by omega
      have hy1 : ¬ 9223372036854775807 < y.length + (x.length + 1) := by omega
      have HKT := hide hkt
      clear hkt
      go_wp2
      go_roundw
      case rel =>
        refine ⟨k + 1, by omega, by go_num, ?_, by trivial⟩
        rw [unhide HKT]
        exact congrArg Value.string ((congrArg (fun z => (⟨y.toArray⟩ : ByteArray) ++ z) (bytes_append x [10])).trans (bytes_append y (x ++ [10])))
      case measure => simp [intOf]; omega
    · obtain rfl : k = W.length := by omega
      rw [List.take_length]
      clear HC
      by_cases hm : W ∈ F
      · have hhas : has D (.string (keyB W)) = true := (unhide HD3 _).2 (List.mem_map_of_mem (tabR_mem hm))
        have hat := unhide HD4 _ (tabR_mem hm) (.lit (.int .i64 0))
        have hmeet : meetR F W = F := by unfold meetR; rw [if_pos hm]
        have HM := hide hmeet
        have HAT := hide hat
        clear hmeet hat hm
        go_wp2_with (first
          | (at_lookup; refine wpList_lookup_own_ok_int _ rfl _ _ 63 rfl 9 3 .i64 law9 Tryz.underlying63 Tryz.underlying3 (Tryz.zeroValue3 _) mb _ D rfl d1 _ _ rfl hkey ?_; intro c hc hwc; rw [hhas])
          | go_in)
        go_ret
        refine ⟨?_, by rw [unhide HM]; exact unhide HN, Fr.refl _ _, Below.refl _ _⟩
        have hat := (unhide HAT).symm.trans hc
        injection hat with hat
        injection hat with _ hat
        rw [hat]
        rfl
      · have hno : keyB W ∉ (tabR F).map Prod.fst := fun h => by
          obtain ⟨V, hV, e⟩ := tabR_key h
          exact hm (keyB_inj V W (hF V hV) hFW e ▸ hV)
        have hhas : has D (.string (keyB W)) = false := by
          cases hc : has D (.string (keyB W)) with
          | false => rfl
          | true => exact absurd ((unhide HD3 _).1 hc) hno
        have hmeet : meetR F W = F ++ [W] := by unfold meetR; rw [if_neg hm]
        have HM := hide hmeet
        have HIX := hide (idx_new hm)
        have HNO := hide hno
        clear hmeet hm hno
        have hwf : (Lit.int .i64 (F.length : Int)).wf = true := WalkArith.wf_i64 (by omega)
        have hlen : (tabR F).length < maxLen := by rw [tabR_length]; unfold maxLen; omega
        obtain ⟨i0, hi, hz0, hz1, hz2⟩ := info_parts info26
        have hBs : ∀ g2 cur, wr.heap[g2]? = some (.cells cur 26 (0, 0)) → g2 ≠ B := fun g2 cur h e => by
          subst e
          rw [unhide HB] at h
          cases h
        have hmB : some B ≠ some mb := fun e => (unhide HN).ne (Option.some.inj e).symm
        have HE : Hid (∀ (vf : Value) (w1 w2 : World) (v' : Value), vf.ownBlock = none ∨ (∃ g2 cur, vf.ownBlock = some g2 ∧ wr.heap[g2]? = some (.cells cur 26 (0, 0))) →
            wr.ownsRow n0 26 1 vf F.length vs → w1.ownsMap Tryz.prog 9 (plainElem Tryz.prog 3) mb ((tabR F).length + 1) (D.put (.string (keyB W)) (.lit (.int .i64 (F.length : Nat)))) → wr.grownBy w1 (some mb) →
            w2.ownsRow n0 26 1 v' (F.length + 1) (vs ++ [.slice (some ⟨g, 0, none⟩) W.length cap]) → (w1.alloc (.cells #[.slice (some ⟨g, 0, none⟩) W.length cap] 26)).grownBy w2 vf.ownBlock → wr.heap[B]? = some (.cells #[.map (some mb), vf] 88 (0, 0)) →
            (w2.cell? ⟨B, 1, none⟩ = some vf ∧ w2.frozen? ⟨B, 1, none⟩ = false) ∧ Numb n0 (w2.setCell ⟨B, 1, none⟩ v') B mb (F ++ [W]) ∧ Fr mb wr (w2.setCell ⟨B, 1, none⟩ v') ∧ Below n0 wr (w2.setCell ⟨B, 1, none⟩ v')) := by
          intro vf w1 w2 v' hvb hrow hown1 hg1 hown2 hg2 hB
          have hNe := unhide HN
          have hmbl : mb < wr.heap.size := hNe.found.lt
          have hBl : B < wr.heap.size := (Array.getElem?_eq_some_iff.1 hB).1
          have hB1 : w1.heap[B]? = some (.cells #[.map (some mb), vf] 88 (0, 0)) := (hg1.block B hBl hmB).trans hB
          have hga : w1.grownBy (w1.alloc (.cells #[.slice (some ⟨g, 0, none⟩) W.length cap] 26)) none := grownBy_none_alloc _ _
          have hB1a : (w1.alloc (.cells #[.slice (some ⟨g, 0, none⟩) W.length cap] 26)).heap[B]? = some (.cells #[.map (some mb), vf] 88 (0, 0)) := (hga.block B (by have := hg1.size; omega) (by simp)).trans hB1
          have hBv : some B ≠ vf.ownBlock := by
            rcases hvb with h | ⟨g2, cur, h, hc⟩
            · rw [h]; simp
            · rw [h]; exact fun e => hBs g2 cur hc (Option.some.inj e).symm
          have hmv : some mb ≠ vf.ownBlock := by
            rcases hvb with h | ⟨g2, cur, h, hc⟩
            · rw [h]; simp
            · rw [h]
              intro e
              obtain ⟨es, clock, hb⟩ := hNe.found.obj
              rw [← Option.some.inj e, hb] at hc
              cases hc
          have hB2 : w2.heap[B]? = some (.cells #[.map (some mb), vf] 88 (0, 0)) := (hg2.block B (by have := hg1.size; have := hga.size; omega) hBv).trans hB1a
          have hF1 := IsFound.put d1 (by obtain ⟨_, _, h, _⟩ := hNe.found; exact h) (unhide HD3) (unhide HD4) d5 (unhide HNO) hown1
          rw [← tabR_snoc] at hF1
          have hg3 : w2.grownBy (w2.setCell ⟨B, 1, none⟩ v') (some B) := grown_set _ _ _ _
          have hFr : Fr mb wr (w2.setCell ⟨B, 1, none⟩ v') := by
            refine ((Fr.of hg1 (fun j e => Or.inl (Option.some.inj e).symm)).trans (Fr.none hga)).trans ((Fr.of hg2 (fun j e => ?_)).trans (Fr.of hg3 (fun j e => ?_)))
            · rcases hvb with h | ⟨g2, cur, h, hc⟩
              · rw [h] at e; cases e
              · rw [h] at e
                cases e
                have h1 : w1.heap[j]? = some (.cells cur 26 (0, 0)) := (hg1.block j (Array.getElem?_eq_some_iff.1 hc).1 (fun e => by
                  obtain ⟨es, clock, hb⟩ := hNe.found.obj
                  rw [Option.some.inj e, hb] at hc
                  cases hc)).trans hc
                exact Or.inr ⟨_, (hga.block j (Array.getElem?_eq_some_iff.1 h1).1 (by simp)).trans h1, Or.inr ⟨_, _, rfl⟩⟩
            · cases e
              exact Or.inr ⟨_, hB2, Or.inl ⟨_, _, rfl⟩⟩
          have hBel : Below n0 wr (w2.setCell ⟨B, 1, none⟩ v') := by
            have b1 : Below n0 wr w1 := (Below.refl n0 wr).grown hg1 hn0 (fun j e => by cases e; exact hNe.loM)
            have b2 := b1.alloc (Nat.le_trans hn0 hg1.size) (.cells #[.slice (some ⟨g, 0, none⟩) W.length cap] 26)
            have b3 := b2.grown hg2 (Nat.le_trans hn0 (Nat.le_trans hg1.size hga.size)) (fun j e => (hrow.lt j e).1)
            exact b3.grown hg3 (Nat.le_trans hn0 (Nat.le_trans hg1.size (Nat.le_trans hga.size hg2.size))) (fun j e => by cases e; exact hNe.loB)
          refine ⟨⟨by rw [cell_of_row _ _ _ _ _ _ hB2]; rfl, by simp [World.frozen?, hB2]⟩, ⟨hNe.loB, hNe.loM, ((hF1.kept hga (by simp)).kept hg2 hmv).kept hg3 (fun e => hmB e.symm), v', vs ++ [.slice (some ⟨g, 0, none⟩) W.length cap], ?_, ?_, ?_⟩, hFr, hBel⟩
          · simp [World.setCell, Array.getElem?_modify, hB2]
          · rw [List.length_append, List.length_singleton]
            refine hown2.kept hg3 ?_
            rcases hown2.2 with ⟨e, h0⟩ | ⟨g', cap', cur', e, _, hg', _⟩
            · exact absurd h0 (by omega)
            · refine Or.inr ?_
              rw [e]
              intro e'
              have : g' = B := Option.some.inj e'
              subst this
              rw [hB2] at hg'
              cases hg'
          · intro i hi
            rw [List.length_append, List.length_singleton] at hi
            by_cases hiF : i < F.length
            · obtain ⟨u, hu, hS⟩ := unhide HV i hiF
              refine ⟨u, ?_, ?_⟩
              · rw [List.getElem?_append_left (List.getElem?_eq_some_iff.1 hu).1]; exact hu
              · have e : (F ++ [W]).getD i [] = F.getD i [] := by simp [List.getD, List.getElem?_append_left hiF]
                rw [e]
                exact hS.fr hFr hNe.found.obj
            · have hi2 : i = F.length := by omega
              subst hi2
              have hvl : vs.length = F.length := by have := hrow.1; omega
              refine ⟨.slice (some ⟨g, 0, none⟩) W.length cap, by rw [← hvl]; simp, ?_⟩
              have e : (F ++ [W]).getD F.length [] = W := by simp [List.getD]
              rw [e]
              exact (unhide HWR).fr hFr hNe.found.obj
        rcases (unhide HRW).2 with ⟨rfl, hF0⟩ | ⟨g2, cap2, cur2, rfl, hb2, hg2, r1, r2, r3, r4⟩
        · have hwf0 : (Lit.int .i64 (0 : Int)).wf = true := by decide
          go_wp2_with (first
            | (at_lookup; refine wpList_lookup_own_ok_int _ rfl _ _ 63 rfl 9 3 .i64 law9 Tryz.underlying63 Tryz.underlying3 (Tryz.zeroValue3 _) mb _ D rfl d1 _ _ rfl hkey ?_; intro c hc hwc; rw [hhas])
            | (at_mapUpdate; refine wpList_mapUpdate_own _ rfl _ _ _ 63 rfl 9 3 law9 Tryz.underlying63 (plainElem (H := Unit) Tryz.prog 3) mb _ D rfl d1 hlen _ _ _ rfl rfl hkey _ [] (plainElem_int Tryz.underlying3 hwf0) ?_; intro w1 hown1 hg1; have c1' := cell_kept c1 hg1 hmB)
            | (at_builtin; refine wpList_append_own _ rfl _ _ 86 rfl n0 26 i0 _ 1 24 Tryz.underlying86 hi hz0 hz1 hz2 rfl (by decide) _ _ _ rfl (((unhide HRW).kept hg1 (by first | exact Or.inl rfl | exact Or.inr (fun e => by obtain ⟨es, clock, hb⟩ := (unhide HN).found.obj; rw [← Option.some.inj e, hg2] at hb; cases hb))).alloc _) ⟨w1.heap.size, 0, none⟩ 1 1 [.slice (some ⟨g, 0, none⟩) W.length cap] rfl rfl (slice_new _ _ _) (by intro u hu; simp at hu; subst hu; rfl) (by unfold maxLen; omega) (by omega) (by have := hg1.size; simp; omega) ?_; intro v' w2 hown2 hgr2 hnil2; obtain ⟨g', cap', rfl⟩ := ownsRow_succ hown2; obtain ⟨⟨q1, q2⟩, q3, q4, q5⟩ := (unhide HE) _ w1 w2 _ (by first | exact Or.inl rfl | exact Or.inr ⟨_, _, rfl, hg2⟩) (unhide HRW) (by rw [hF0]; exact hown1) hg1 hown2 hgr2 (unhide HB))
            | go_in)
          go_ret
          simp only [hF0, Nat.zero_add] at q3 q4 q5
          refine ⟨?_, by rw [unhide HM]; exact q3, q4, q5⟩
          rw [unhide HIX]
          rw [hF0]
          rfl
        · go_wp2_with (first
            | (at_lookup; refine wpList_lookup_own_ok_int _ rfl _ _ 63 rfl 9 3 .i64 law9 Tryz.underlying63 Tryz.underlying3 (Tryz.zeroValue3 _) mb _ D rfl d1 _ _ rfl hkey ?_; intro c hc hwc; rw [hhas])
            | (at_mapUpdate; refine wpList_mapUpdate_own _ rfl _ _ _ 63 rfl 9 3 law9 Tryz.underlying63 (plainElem (H := Unit) Tryz.prog 3) mb _ D rfl d1 hlen _ _ _ rfl rfl hkey _ [] (plainElem_int Tryz.underlying3 hwf) ?_; intro w1 hown1 hg1; have c1' := cell_kept c1 hg1 hmB)
            | (at_builtin; refine wpList_append_own _ rfl _ _ 86 rfl n0 26 i0 _ 1 24 Tryz.underlying86 hi hz0 hz1 hz2 rfl (by decide) _ _ _ rfl (((unhide HRW).kept hg1 (by first | exact Or.inl rfl | exact Or.inr (fun e => by obtain ⟨es, clock, hb⟩ := (unhide HN).found.obj; rw [← Option.some.inj e, hg2] at hb; cases hb))).alloc _) ⟨w1.heap.size, 0, none⟩ 1 1 [.slice (some ⟨g, 0, none⟩) W.length cap] rfl rfl (slice_new _ _ _) (by intro u hu; simp at hu; subst hu; rfl) (by unfold maxLen; omega) (by omega) (by have := hg1.size; simp; omega) ?_; intro v' w2 hown2 hgr2 hnil2; obtain ⟨g', cap', rfl⟩ := ownsRow_succ hown2; obtain ⟨⟨q1, q2⟩, q3, q4, q5⟩ := (unhide HE) _ w1 w2 _ (by first | exact Or.inl rfl | exact Or.inr ⟨_, _, rfl, hg2⟩) (unhide HRW) hown1 hg1 hown2 hgr2 (unhide HB))
            | go_in)
          go_ret
          refine ⟨?_, by rw [unhide HM]; exact q3, q4, q5⟩
          rw [unhide HIX]
          rfl

set_option maxHeartbeats 1000000 in
set_option maxRecDepth 100000 in
theorem number_none (n0 B mb : Nat) (F : List (List Rs)) (W : List Rs) (w : World) (hN : Numb n0 w B mb F) (hW : StrR w (.slice none 0 0) W) (hF : ∀ V ∈ F, Fine V) (hFW : Fine W) (hW0 : W.length = 0) (hFl : F.length < 100000) (hkl : (keyB W).length ≤ 100000)
    (_hWl : W.length < 1000) (hn0 : n0 ≤ w.heap.size) :
    Calls Tryz.prog 57 #[.pointer (some ⟨B, 0, none⟩), .slice none 0 0] w fun e w' => e = .returned (.int .i64 (F.idxOf W : Nat)) ∧ Numb n0 w' B mb (meetR F W) ∧ Fr mb w w' ∧ Below n0 w w' := by
  have HN := hide hN
  have HWR := hide hW
  obtain ⟨vf, vs, hB, hrow, hvs⟩ := hN.row
  have c0 : w.cell? ⟨B, 0, none⟩ = some (.map (some mb)) := by rw [cell_of_row _ _ _ _ _ _ hB]; rfl
  have c1 : w.cell? ⟨B, 1, none⟩ = some vf := by rw [cell_of_row _ _ _ _ _ _ hB]; rfl
  obtain ⟨D, d1, d2, d3, d4, d5⟩ := hN.found
  have hkey := keyOf_string_mk (P := Tryz.prog) Tryz.underlying9 (s := ⟨(keyB W).toArray⟩) (by unfold maxLen; show (keyB W).toArray.size ≤ _; simp; omega)
  have HV := hide hvs
  have HB := hide hB
  have HRW := hide hrow
  have HD3 := hide d3
  have HD4 := hide d4
  clear hvs hB hW hrow d3 d4 d2 hN
  go_enter Tryz.func57, Tryz.ntmps57
  go_wp2
  go_loopw [5, 12] (fun s i wr => ∃ k : Nat, k ≤ W.length ∧ i = .int .i64 k ∧ s = encStr (keyB (W.take k)) ∧ wr = w) (fun _ i _ => W.length - (intOf i).toNat)
  case atStart => exact ⟨0, Nat.zero_le _, rfl, rfl, rfl⟩
  case round =>
    obtain ⟨k, hk, rfl, rfl, rfl⟩ := hrel
    by_cases hlt : k < W.length
    · exact absurd hlt (by omega)
    · obtain rfl : k = 0 := by omega
      rw [show W.take 0 = W from by rw [List.eq_nil_of_length_eq_zero hW0]; rfl]
      by_cases hm : W ∈ F
      · have hhas : has D (.string (keyB W)) = true := (unhide HD3 _).2 (List.mem_map_of_mem (tabR_mem hm))
        have hat := unhide HD4 _ (tabR_mem hm) (.lit (.int .i64 0))
        have hmeet : meetR F W = F := by unfold meetR; rw [if_pos hm]
        have HM := hide hmeet
        have HAT := hide hat
        clear hmeet hat hm
        go_wp2_with (first
          | (at_lookup; refine wpList_lookup_own_ok_int _ rfl _ _ 63 rfl 9 3 .i64 law9 Tryz.underlying63 Tryz.underlying3 (Tryz.zeroValue3 _) mb _ D rfl d1 _ _ rfl hkey ?_; intro c hc hwc; rw [hhas])
          | go_in)
        go_ret
        refine ⟨?_, by rw [unhide HM]; exact unhide HN, Fr.refl _ _, Below.refl _ _⟩
        have hat := (unhide HAT).symm.trans hc
        injection hat with hat
        injection hat with _ hat
        rw [hat]
        rfl
      · have hno : keyB W ∉ (tabR F).map Prod.fst := fun h => by
          obtain ⟨V, hV, e⟩ := tabR_key h
          exact hm (keyB_inj V W (hF V hV) hFW e ▸ hV)
        have hhas : has D (.string (keyB W)) = false := by
          cases hc : has D (.string (keyB W)) with
          | false => rfl
          | true => exact absurd ((unhide HD3 _).1 hc) hno
        have hmeet : meetR F W = F ++ [W] := by unfold meetR; rw [if_neg hm]
        have HM := hide hmeet
        have HIX := hide (idx_new hm)
        have HNO := hide hno
        clear hmeet hm hno
        have hwf : (Lit.int .i64 (F.length : Int)).wf = true := WalkArith.wf_i64 (by omega)
        have hlen : (tabR F).length < maxLen := by rw [tabR_length]; unfold maxLen; omega
        obtain ⟨i0, hi, hz0, hz1, hz2⟩ := info_parts info26
        have hBs : ∀ g2 cur, wr.heap[g2]? = some (.cells cur 26 (0, 0)) → g2 ≠ B := fun g2 cur h e => by
          subst e
          rw [unhide HB] at h
          cases h
        have hmB : some B ≠ some mb := fun e => (unhide HN).ne (Option.some.inj e).symm
        have HE : Hid (∀ (vf : Value) (w1 w2 : World) (v' : Value), vf.ownBlock = none ∨ (∃ g2 cur, vf.ownBlock = some g2 ∧ wr.heap[g2]? = some (.cells cur 26 (0, 0))) →
            wr.ownsRow n0 26 1 vf F.length vs → w1.ownsMap Tryz.prog 9 (plainElem Tryz.prog 3) mb ((tabR F).length + 1) (D.put (.string (keyB W)) (.lit (.int .i64 (F.length : Nat)))) → wr.grownBy w1 (some mb) →
            w2.ownsRow n0 26 1 v' (F.length + 1) (vs ++ [.slice none 0 0]) → (w1.alloc (.cells #[.slice none 0 0] 26)).grownBy w2 vf.ownBlock → wr.heap[B]? = some (.cells #[.map (some mb), vf] 88 (0, 0)) →
            (w2.cell? ⟨B, 1, none⟩ = some vf ∧ w2.frozen? ⟨B, 1, none⟩ = false) ∧ Numb n0 (w2.setCell ⟨B, 1, none⟩ v') B mb (F ++ [W]) ∧ Fr mb wr (w2.setCell ⟨B, 1, none⟩ v') ∧ Below n0 wr (w2.setCell ⟨B, 1, none⟩ v')) := by
          intro vf w1 w2 v' hvb hrow hown1 hg1 hown2 hg2 hB
          have hNe := unhide HN
          have hmbl : mb < wr.heap.size := hNe.found.lt
          have hBl : B < wr.heap.size := (Array.getElem?_eq_some_iff.1 hB).1
          have hB1 : w1.heap[B]? = some (.cells #[.map (some mb), vf] 88 (0, 0)) := (hg1.block B hBl hmB).trans hB
          have hga : w1.grownBy (w1.alloc (.cells #[.slice none 0 0] 26)) none := grownBy_none_alloc _ _
          have hB1a : (w1.alloc (.cells #[.slice none 0 0] 26)).heap[B]? = some (.cells #[.map (some mb), vf] 88 (0, 0)) := (hga.block B (by have := hg1.size; omega) (by simp)).trans hB1
          have hBv : some B ≠ vf.ownBlock := by
            rcases hvb with h | ⟨g2, cur, h, hc⟩
            · rw [h]; simp
            · rw [h]; exact fun e => hBs g2 cur hc (Option.some.inj e).symm
          have hmv : some mb ≠ vf.ownBlock := by
            rcases hvb with h | ⟨g2, cur, h, hc⟩
            · rw [h]; simp
            · rw [h]
              intro e
              obtain ⟨es, clock, hb⟩ := hNe.found.obj
              rw [← Option.some.inj e, hb] at hc
              cases hc
          have hB2 : w2.heap[B]? = some (.cells #[.map (some mb), vf] 88 (0, 0)) := (hg2.block B (by have := hg1.size; have := hga.size; omega) hBv).trans hB1a
          have hF1 := IsFound.put d1 (by obtain ⟨_, _, h, _⟩ := hNe.found; exact h) (unhide HD3) (unhide HD4) d5 (unhide HNO) hown1
          rw [← tabR_snoc] at hF1
          have hg3 : w2.grownBy (w2.setCell ⟨B, 1, none⟩ v') (some B) := grown_set _ _ _ _
          have hFr : Fr mb wr (w2.setCell ⟨B, 1, none⟩ v') := by
            refine ((Fr.of hg1 (fun j e => Or.inl (Option.some.inj e).symm)).trans (Fr.none hga)).trans ((Fr.of hg2 (fun j e => ?_)).trans (Fr.of hg3 (fun j e => ?_)))
            · rcases hvb with h | ⟨g2, cur, h, hc⟩
              · rw [h] at e; cases e
              · rw [h] at e
                cases e
                have h1 : w1.heap[j]? = some (.cells cur 26 (0, 0)) := (hg1.block j (Array.getElem?_eq_some_iff.1 hc).1 (fun e => by
                  obtain ⟨es, clock, hb⟩ := hNe.found.obj
                  rw [Option.some.inj e, hb] at hc
                  cases hc)).trans hc
                exact Or.inr ⟨_, (hga.block j (Array.getElem?_eq_some_iff.1 h1).1 (by simp)).trans h1, Or.inr ⟨_, _, rfl⟩⟩
            · cases e
              exact Or.inr ⟨_, hB2, Or.inl ⟨_, _, rfl⟩⟩
          have hBel : Below n0 wr (w2.setCell ⟨B, 1, none⟩ v') := by
            have b1 : Below n0 wr w1 := (Below.refl n0 wr).grown hg1 hn0 (fun j e => by cases e; exact hNe.loM)
            have b2 := b1.alloc (Nat.le_trans hn0 hg1.size) (.cells #[.slice none 0 0] 26)
            have b3 := b2.grown hg2 (Nat.le_trans hn0 (Nat.le_trans hg1.size hga.size)) (fun j e => (hrow.lt j e).1)
            exact b3.grown hg3 (Nat.le_trans hn0 (Nat.le_trans hg1.size (Nat.le_trans hga.size hg2.size))) (fun j e => by cases e; exact hNe.loB)
          refine ⟨⟨by rw [cell_of_row _ _ _ _ _ _ hB2]; rfl, by simp [World.frozen?, hB2]⟩, ⟨hNe.loB, hNe.loM, ((hF1.kept hga (by simp)).kept hg2 hmv).kept hg3 (fun e => hmB e.symm), v', vs ++ [.slice none 0 0], ?_, ?_, ?_⟩, hFr, hBel⟩
          · simp [World.setCell, Array.getElem?_modify, hB2]
          · rw [List.length_append, List.length_singleton]
            refine hown2.kept hg3 ?_
            rcases hown2.2 with ⟨e, h0⟩ | ⟨g', cap', cur', e, _, hg', _⟩
            · exact absurd h0 (by omega)
            · refine Or.inr ?_
              rw [e]
              intro e'
              have : g' = B := Option.some.inj e'
              subst this
              rw [hB2] at hg'
              cases hg'
          · intro i hi
            rw [List.length_append, List.length_singleton] at hi
            by_cases hiF : i < F.length
            · obtain ⟨u, hu, hS⟩ := unhide HV i hiF
              refine ⟨u, ?_, ?_⟩
              · rw [List.getElem?_append_left (List.getElem?_eq_some_iff.1 hu).1]; exact hu
              · have e : (F ++ [W]).getD i [] = F.getD i [] := by simp [List.getD, List.getElem?_append_left hiF]
                rw [e]
                exact hS.fr hFr hNe.found.obj
            · have hi2 : i = F.length := by omega
              subst hi2
              have hvl : vs.length = F.length := by have := hrow.1; omega
              refine ⟨.slice none 0 0, by rw [← hvl]; simp, ?_⟩
              have e : (F ++ [W]).getD F.length [] = W := by simp [List.getD]
              rw [e]
              exact (unhide HWR).fr hFr hNe.found.obj
        rcases (unhide HRW).2 with ⟨rfl, hF0⟩ | ⟨g2, cap2, cur2, rfl, hb2, hg2, r1, r2, r3, r4⟩
        · have hwf0 : (Lit.int .i64 (0 : Int)).wf = true := by decide
          go_wp2_with (first
            | (at_lookup; refine wpList_lookup_own_ok_int _ rfl _ _ 63 rfl 9 3 .i64 law9 Tryz.underlying63 Tryz.underlying3 (Tryz.zeroValue3 _) mb _ D rfl d1 _ _ rfl hkey ?_; intro c hc hwc; rw [hhas])
            | (at_mapUpdate; refine wpList_mapUpdate_own _ rfl _ _ _ 63 rfl 9 3 law9 Tryz.underlying63 (plainElem (H := Unit) Tryz.prog 3) mb _ D rfl d1 hlen _ _ _ rfl rfl hkey _ [] (plainElem_int Tryz.underlying3 hwf0) ?_; intro w1 hown1 hg1; have c1' := cell_kept c1 hg1 hmB)
            | (at_builtin; refine wpList_append_own _ rfl _ _ 86 rfl n0 26 i0 _ 1 24 Tryz.underlying86 hi hz0 hz1 hz2 rfl (by decide) _ _ _ rfl (((unhide HRW).kept hg1 (by first | exact Or.inl rfl | exact Or.inr (fun e => by obtain ⟨es, clock, hb⟩ := (unhide HN).found.obj; rw [← Option.some.inj e, hg2] at hb; cases hb))).alloc _) ⟨w1.heap.size, 0, none⟩ 1 1 [.slice none 0 0] rfl rfl (slice_new _ _ _) (by intro u hu; simp at hu; subst hu; rfl) (by unfold maxLen; omega) (by omega) (by have := hg1.size; simp; omega) ?_; intro v' w2 hown2 hgr2 hnil2; obtain ⟨g', cap', rfl⟩ := ownsRow_succ hown2; obtain ⟨⟨q1, q2⟩, q3, q4, q5⟩ := (unhide HE) _ w1 w2 _ (by first | exact Or.inl rfl | exact Or.inr ⟨_, _, rfl, hg2⟩) (unhide HRW) (by rw [hF0]; exact hown1) hg1 hown2 hgr2 (unhide HB))
            | go_in)
          go_ret
          simp only [hF0, Nat.zero_add] at q3 q4 q5
          refine ⟨?_, by rw [unhide HM]; exact q3, q4, q5⟩
          rw [unhide HIX]
          rw [hF0]
          rfl
        · go_wp2_with (first
            | (at_lookup; refine wpList_lookup_own_ok_int _ rfl _ _ 63 rfl 9 3 .i64 law9 Tryz.underlying63 Tryz.underlying3 (Tryz.zeroValue3 _) mb _ D rfl d1 _ _ rfl hkey ?_; intro c hc hwc; rw [hhas])
            | (at_mapUpdate; refine wpList_mapUpdate_own _ rfl _ _ _ 63 rfl 9 3 law9 Tryz.underlying63 (plainElem (H := Unit) Tryz.prog 3) mb _ D rfl d1 hlen _ _ _ rfl rfl hkey _ [] (plainElem_int Tryz.underlying3 hwf) ?_; intro w1 hown1 hg1; have c1' := cell_kept c1 hg1 hmB)
            | (at_builtin; refine wpList_append_own _ rfl _ _ 86 rfl n0 26 i0 _ 1 24 Tryz.underlying86 hi hz0 hz1 hz2 rfl (by decide) _ _ _ rfl (((unhide HRW).kept hg1 (by first | exact Or.inl rfl | exact Or.inr (fun e => by obtain ⟨es, clock, hb⟩ := (unhide HN).found.obj; rw [← Option.some.inj e, hg2] at hb; cases hb))).alloc _) ⟨w1.heap.size, 0, none⟩ 1 1 [.slice none 0 0] rfl rfl (slice_new _ _ _) (by intro u hu; simp at hu; subst hu; rfl) (by unfold maxLen; omega) (by omega) (by have := hg1.size; simp; omega) ?_; intro v' w2 hown2 hgr2 hnil2; obtain ⟨g', cap', rfl⟩ := ownsRow_succ hown2; obtain ⟨⟨q1, q2⟩, q3, q4, q5⟩ := (unhide HE) _ w1 w2 _ (by first | exact Or.inl rfl | exact Or.inr ⟨_, _, rfl, hg2⟩) (unhide HRW) hown1 hg1 hown2 hgr2 (unhide HB))
            | go_in)
          go_ret
          refine ⟨?_, by rw [unhide HM]; exact q3, q4, q5⟩
          rw [unhide HIX]
          rfl


theorem number_any (n0 B mb : Nat) (F : List (List Rs)) (u : Value) (W : List Rs) (w : World) (hN : Numb n0 w B mb F) (hW : StrR w u W) (hF : ∀ V ∈ F, Fine V) (hFW : Fine W) (hFl : F.length < 100000) (hkl : (keyB W).length ≤ 100000)
    (hWl : W.length < 1000) (hn0 : n0 ≤ w.heap.size) :
    Calls Tryz.prog 57 #[.pointer (some ⟨B, 0, none⟩), u] w fun e w' => e = .returned (.int .i64 (F.idxOf W : Nat)) ∧ Numb n0 w' B mb (meetR F W) ∧ Fr mb w w' ∧ Below n0 w w' := by
  rcases hW.2 with ⟨rfl, h0⟩ | ⟨g, cap, cur, rfl, _⟩
  · exact number_none n0 B mb F W w hN hW hF hFW h0 hFl hkl hWl hn0
  · exact number_some n0 B mb g cap F W w hN hW hF hFW hFl hkl hWl hn0

end Go.Proofs.YtdfnngehhiociaaGreatDoor

namespace Go.Proofs.YtdfnngehhiociaaGreatDoor
open Go.RowKit Go.Maps Go.WideMaps
open Go.Proofs (encStr)

/-! A map from runes to slices: what it holds is held as it is. -/

def heldR : Value → Option (DataW Value × List MemPlace) := fun v => some (.held v, [])

theorem law21 : Keyed Tryz.prog 21 := int_keyed Tryz.underlying21

theorem key_rune {a : Int} (h : RuneOk a) : keyOf Tryz.prog 21 (.int .i32 a) = some (.int .i32 a) :=
  keyOf_int_mk Tryz.underlying21 (WalkArith.wf_i32 (by have := h.1; have := h.2.2; omega))

set_option maxRecDepth 100000 in
/-- What a look-up gives. -/
theorem held_look {w : World} {gb n : Nat} {D : DataW Value} {a : Int} (h : w.ownsMap Tryz.prog 21 heldR gb n D) (ha : RuneOk a) {v : Value} (hat : D.atKey (.int .i32 a) (.held (.slice none 0 0)) = .held v) :
    (Instr.lookup 126 (.map (some gb)) (.int .i32 a) false).run Tryz.prog w = .ok v w := by
  obtain ⟨es, clock, hb, F, _, rfl⟩ := h
  rcases Maps.fit_look false law21 Tryz.underlying126 (Tryz.zeroValue26 w) hb F (key_rune ha) with ⟨hrun, _, hz⟩ | ⟨e0, y, _, _, hrun, hR, hy, _⟩
  · rw [hz] at hat
    injection hat with hat
    rw [← hat]
    exact hrun
  · rw [hy] at hat
    have : y = (.held e0.val, []) := by
      unfold heldR at hR
      exact (Option.some.inj hR).symm
    rw [this] at hat
    injection hat with hat
    rw [← hat]
    exact hrun

theorem behind_snoc (V : List Rs) (a : Int) (t : Rs) (r : Int) : behind (V ++ [a :: t]) r = if r = a then behind V r ++ [t] else behind V r := by
  unfold behind
  rw [List.filterMap_append]
  by_cases h : r = a
  · subst h; simp [tailOf]
  · have h' : ¬ a = r := fun e => h e.symm
    simp [tailOf, h, h']
theorem behind_snoc_nil (V : List Rs) (r : Int) : behind (V ++ [[]]) r = behind V r := by
  unfold behind
  rw [List.filterMap_append]
  simp [tailOf]
theorem heads_snoc {V : List Rs} {a : Int} {t : Rs} {r : Int} : r ∈ heads (V ++ [a :: t]) ↔ r ∈ heads V ∨ r = a := by
  rw [mem_heads, mem_heads]
  constructor
  · rintro ⟨s, hs⟩
    rcases List.mem_append.1 hs with hs | hs
    · exact Or.inl ⟨s, hs⟩
    · simp at hs; exact Or.inr hs.1
  · rintro (⟨s, hs⟩ | rfl)
    · exact ⟨s, List.mem_append_left _ hs⟩
    · exact ⟨t, by simp⟩
theorem heads_snoc_nil {V : List Rs} {r : Int} : r ∈ heads (V ++ [[]]) ↔ r ∈ heads V := by
  rw [mem_heads, mem_heads]
  constructor
  · rintro ⟨s, hs⟩
    rcases List.mem_append.1 hs with hs | hs
    · exact ⟨s, hs⟩
    · simp at hs
  · rintro ⟨s, hs⟩
    exact ⟨s, List.mem_append_left _ hs⟩

/-- What follows each rune lies there. -/
def Grp (base : Nat) (w : World) (gb : Nat) (V : List Rs) : Prop :=
  ∃ (D : DataW Value) (U : Int → Value) (G : Int → Nat), w.ownsMap Tryz.prog 21 heldR gb V.length D ∧ (∀ r, has D (.int .i32 r) = true ↔ r ∈ heads V) ∧
    (∀ r ∈ heads V, (∀ z, D.atKey (.int .i32 r) z = .held (U r)) ∧ (U r).ownBlock = some (G r) ∧ w.ownsRow base 9 1 (U r) (behind V r).length ((behind V r).map fun t => encStr (encW t))) ∧
    (∀ r ∈ heads V, ∀ r' ∈ heads V, r ≠ r' → G r ≠ G r')

theorem Grp.made (base : Nat) (w : World) : Grp base (w.alloc (.map #[] 0)) w.heap.size [] :=
  ⟨.map [], fun _ => .nilFunc, fun _ => 0, World.ownsMap_made _ _ _ _, fun r => by simp [has_eq, heads], fun r hr => by simp [heads] at hr, fun r hr => by simp [heads] at hr⟩

theorem Grp.obj {base : Nat} {w : World} {gb : Nat} {V : List Rs} (h : Grp base w gb V) : ∃ es clock, w.heap[gb]? = some (.map es clock) := by
  obtain ⟨D, U, G, ⟨es, clock, hb, _⟩, _⟩ := h
  exact ⟨es, clock, hb⟩

theorem row_block {w : World} {base : Nat} {e : TypeId} {size : Nat} {v : Value} {n : Nat} {xs : List Value} (h : w.ownsRow base e size v n xs) {g : Nat} (hg : v.ownBlock = some g) : base ≤ g ∧ ∃ cur, w.heap[g]? = some (.cells cur e (0, 0)) := by
  rcases h.2 with ⟨rfl, _⟩ | ⟨g', cap, cur, rfl, hb, hc, _⟩
  · simp [Value.ownBlock] at hg
  · have : g' = g := Option.some.inj hg
    subst this
    exact ⟨hb, cur, hc⟩

theorem row_off {w w' : World} {base : Nat} {e : TypeId} {size : Nat} {v : Value} {n : Nat} {xs : List Value} {row : Option Nat} (h : w.ownsRow base e size v n xs) (hg : w.grownBy w' row) (hne : v.ownBlock = none ∨ v.ownBlock ≠ row) : w'.ownsRow base e size v n xs := by
  refine h.kept hg ?_
  rcases hne with h0 | h0
  · rcases h.2 with ⟨rfl, _⟩ | ⟨g', cap, cur, rfl, _⟩
    · exact Or.inl rfl
    · simp [Value.ownBlock] at h0
  · exact Or.inr h0

theorem Grp.kept {base : Nat} {w w' : World} {gb : Nat} {V : List Rs} (h : Grp base w gb V) {row : Option Nat} (hg : w.grownBy w' row) (h1 : some gb ≠ row) (h2 : ∀ j, row = some j → ∀ cur, w.heap[j]? ≠ some (.cells cur 9 (0, 0))) : Grp base w' gb V := by
  obtain ⟨D, U, G, a1, a2, a3, a4⟩ := h
  refine ⟨D, U, G, a1.kept hg h1, a2, fun r hr => ?_, a4⟩
  obtain ⟨b1, b2, b3⟩ := a3 r hr
  refine ⟨b1, b2, row_off b3 hg (Or.inr fun e => ?_)⟩
  rw [b2] at e
  obtain ⟨_, cur, hc⟩ := row_block b3 b2
  exact h2 _ e.symm cur hc
theorem Grp.later {base : Nat} {w w' : World} {gb : Nat} {V : List Rs} (h : Grp base w gb V) (hg : w.grownBy w' none) : Grp base w' gb V := h.kept hg (by simp) (fun j e => by cases e)

theorem Grp.fr {base mb : Nat} {w w' : World} {gb : Nat} {V : List Rs} (h : Grp base w gb V) (hf : Fr mb w w') (hne : gb ≠ mb) (hm : ∃ es clock, w.heap[mb]? = some (.map es clock)) : Grp base w' gb V := by
  obtain ⟨D, U, G, ⟨es, clock, hb, rest⟩, a2, a3, a4⟩ := h
  refine ⟨D, U, G, ⟨es, clock, hf.block gb _ hb hne (fun c f e => by cases e) (fun c f e => by cases e), rest⟩, a2, fun r hr => ?_, a4⟩
  obtain ⟨b1, b2, b3⟩ := a3 r hr
  refine ⟨b1, b2, hf.row b3 (by decide) (by decide) fun c f e => ?_⟩
  obtain ⟨es, clock, hb⟩ := hm
  rw [hb] at e; cases e

theorem Grp.skip {base : Nat} {w : World} {gb : Nat} {V : List Rs} (h : Grp base w gb V) : Grp base w gb (V ++ [[]]) := by
  obtain ⟨D, U, G, a1, a2, a3, a4⟩ := h
  refine ⟨D, U, G, ownsMap_tight a1 (Nat.le_trans a1.size_le (by simp)), fun r => (a2 r).trans heads_snoc_nil.symm, fun r hr => ?_, fun r hr r' hr' => a4 r (heads_snoc_nil.1 hr) r' (heads_snoc_nil.1 hr')⟩
  rw [behind_snoc_nil]
  exact a3 r (heads_snoc_nil.1 hr)

/-- What the look-up gives at this rune, and what is then so. -/
theorem Grp.look {base : Nat} {w : World} {gb : Nat} {V : List Rs} (h : Grp base w gb V) {a : Int} (ha : RuneOk a) (t : Rs) (hl : V.length < 100000) :
    ∃ v0, (∀ w', w.grownBy w' none → (Instr.lookup 126 (.map (some gb)) (.int .i32 a) false).run Tryz.prog w' = .ok v0 w') ∧ w.ownsRow base 9 1 v0 (behind V a).length ((behind V a).map fun t => encStr (encW t)) ∧
      ∀ wa w3 v', w.grownBy wa none → wa.grownBy w3 v0.ownBlock → w3.ownsRow base 9 1 v' ((behind V a).length + 1) ((behind V a).map (fun t => encStr (encW t)) ++ [encStr (encW t)]) → (v'.ownBlock = v0.ownBlock ∨ v'.ownBlock = some wa.heap.size) →
        ∃ w4, (Instr.mapUpdate 126 (.map (some gb)) (.int .i32 a) v').run Tryz.prog w3 = .ok () w4 ∧ w3.grownBy w4 (some gb) ∧ Grp base w4 gb (V ++ [a :: t]) ∧ (v0.ownBlock = none ∨ ∃ g, v0.ownBlock = some g ∧ base ≤ g) := by
  obtain ⟨D, U, G, a1, a2, a3, a4⟩ := h
  have hmap : ∃ es clock, w.heap[gb]? = some (.map es clock) := by
    obtain ⟨es, clock, hb, _⟩ := a1
    exact ⟨es, clock, hb⟩
  obtain ⟨v0, hat, hrow, hblk⟩ : ∃ v0, D.atKey (.int .i32 a) (.held (.slice none 0 0)) = .held v0 ∧ w.ownsRow base 9 1 v0 (behind V a).length ((behind V a).map fun t => encStr (encW t)) ∧ ((a ∈ heads V ∧ v0.ownBlock = some (G a)) ∨ (a ∉ heads V ∧ v0.ownBlock = none)) := by
    by_cases hm : a ∈ heads V
    · obtain ⟨b1, b2, b3⟩ := a3 a hm
      exact ⟨U a, b1 _, b3, Or.inl ⟨hm, b2⟩⟩
    · have hno : has D (.int .i32 a) = false := by
        cases hc : has D (.int .i32 a) with
        | false => rfl
        | true => exact absurd ((a2 a).1 hc) hm
      have hb0 : behind V a = [] := by
        apply List.eq_nil_iff_forall_not_mem.2
        intro s hs
        exact hm (mem_heads.2 ⟨s, mem_behind.1 hs⟩)
      refine ⟨.slice none 0 0, atKey_of_not_has hno _, ?_, Or.inr ⟨hm, rfl⟩⟩
      rw [hb0]
      exact World.ownsRow_nil _ _ _ _
  refine ⟨v0, fun w' hg => held_look (a1.kept hg (by simp)) ha hat, hrow, ?_⟩
  intro wa w3 v' hga hg3 hr3 hloc
  have hgbv : some gb ≠ v0.ownBlock := by
    rcases hblk with ⟨hm, e⟩ | ⟨_, e⟩
    · rw [e]
      intro e'
      obtain ⟨b1, b2, b3⟩ := a3 a hm
      obtain ⟨_, cur, hc⟩ := row_block b3 b2
      obtain ⟨es, clock, hb⟩ := hmap
      rw [← Option.some.inj e', hb] at hc
      cases hc
    · rw [e]; simp
  have a1' : w3.ownsMap Tryz.prog 21 heldR gb V.length D := (a1.kept hga (by simp)).kept hg3 hgbv
  obtain ⟨w4, hrun, hown4, hg4⟩ := a1'.update law21 Tryz.underlying126 (by unfold maxLen; omega) (key_rune ha) (show heldR v' = some (.held v', []) from rfl)
  obtain ⟨g', hg', hbg', cur', hcur'⟩ : ∃ g', v'.ownBlock = some g' ∧ base ≤ g' ∧ ∃ cur, w3.heap[g']? = some (.cells cur 9 (0, 0)) := by
    rcases hr3.2 with ⟨_, h0⟩ | ⟨g', cap, cur, rfl, hb, hc, _⟩
    · omega
    · exact ⟨g', rfl, hb, cur, hc⟩
  have hmap3 : ∃ es clock, w3.heap[gb]? = some (.map es clock) := by
    obtain ⟨es, clock, hb, _⟩ := a1'
    exact ⟨es, clock, hb⟩
  have hkl : WideAt.IsKeyLit (Lit.int .i32 a) := by simp [WideAt.IsKeyLit]
  refine ⟨w4, hrun, hg4, ⟨D.put (.int .i32 a) (.held v'), fun r => if r = a then v' else U r, fun r => if r = a then g' else G r, ?_, ?_, ?_, ?_⟩, ?_⟩
  · rw [List.length_append, List.length_singleton]; exact hown4
  · intro r
    by_cases hr : r = a
    · subst hr
      have := has_put_same (D := D) (k := .int .i32 r) a1.isMap hkl (.held v')
      simp [this, heads_snoc]
    · rw [has_put_other (fun e => hr (by injection e)), a2, heads_snoc]
      simp [hr]
  · intro r hr
    by_cases hra : r = a
    · subst hra
      simp only [if_true]
      refine ⟨fun z => atKey_put_same a1.isMap hkl _ _, hg', ?_⟩
      rw [behind_snoc, if_pos rfl, List.length_append, List.length_singleton, List.map_append]
      refine row_off hr3 hg4 (Or.inr ?_)
      rw [hg']
      intro e
      obtain ⟨es, clock, hb⟩ := hmap3
      rw [Option.some.inj e, hb] at hcur'
      cases hcur'
    · simp only [if_neg hra]
      have hrV : r ∈ heads V := by
        rcases heads_snoc.1 hr with h | h
        · exact h
        · exact absurd h hra
      obtain ⟨b1, b2, b3⟩ := a3 r hrV
      refine ⟨fun z => by rw [atKey_put_other (fun e => hra (by injection e))]; exact b1 z, b2, ?_⟩
      rw [behind_snoc, if_neg hra]
      have c1 := row_off b3 hga (Or.inr (by rw [b2]; simp))
      have c2 := row_off c1 hg3 (Or.inr (by
        rw [b2]
        rcases hblk with ⟨hm, e⟩ | ⟨_, e⟩
        · rw [e]; exact fun e' => a4 r hrV a hm hra (Option.some.inj e')
        · rw [e]; simp))
      refine row_off c2 hg4 (Or.inr ?_)
      rw [b2]
      intro e
      obtain ⟨_, cur, hc⟩ := row_block c2 b2
      obtain ⟨es, clock, hb⟩ := hmap3
      rw [Option.some.inj e, hb] at hc
      cases hc
  · have key : ∀ r, r ∈ heads V → r ≠ a → G r ≠ g' := by
      intro r hr hra e
      obtain ⟨b1, b2, b3⟩ := a3 r hr
      rcases hloc with h | h
      · rcases hblk with ⟨hm, e0⟩ | ⟨_, e0⟩
        · rw [hg', e0] at h
          exact a4 r hr a hm hra (by rw [e]; exact Option.some.inj h)
        · rw [hg', e0] at h; cases h
      · rw [hg'] at h
        have : g' = wa.heap.size := Option.some.inj h
        obtain ⟨_, cur, hc⟩ := row_block b3 b2
        have hlt := (Array.getElem?_eq_some_iff.1 hc).1
        have := hga.size
        omega
    intro r hr r' hr' hne
    by_cases h1 : r = a
    · have h2 : ¬ r' = a := fun e => hne (h1.trans e.symm)
      simp only [if_pos h1, if_neg h2]
      rcases heads_snoc.1 hr' with h | h
      · exact fun e => key r' h h2 e.symm
      · exact absurd h h2
    · by_cases h2 : r' = a
      · simp only [if_neg h1, if_pos h2]
        rcases heads_snoc.1 hr with h | h
        · exact key r h h1
        · exact absurd h h1
      · simp only [if_neg h1, if_neg h2]
        rcases heads_snoc.1 hr with h | h
        · rcases heads_snoc.1 hr' with h' | h'
          · exact a4 r h r' h' hne
          · exact absurd h' h2
        · exact absurd h h1
  · rcases hblk with ⟨hm, e⟩ | ⟨_, e⟩
    · obtain ⟨b1, b2, b3⟩ := a3 a hm
      exact Or.inr ⟨G a, e, (row_block b3 b2).1⟩
    · exact Or.inl e

end Go.Proofs.YtdfnngehhiociaaGreatDoor
