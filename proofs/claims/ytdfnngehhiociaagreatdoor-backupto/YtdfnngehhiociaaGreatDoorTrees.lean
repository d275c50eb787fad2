import Derived.Test.YtdfnngehhiociaaGreatDoorReads
import Derived.Deep.CutRange
import Derived.Defers
import Derived.Recover
namespace Go.Proofs.YtdfnngehhiociaaGreatDoor
open Go.RowKit
open Go.Proofs (encStr)

theorem Arr.form {base : Nat} {w : World} {va : Value} {A : List (Int × Nat)} (h : Arr base w va A) : ∃ ad cap, va = .slice ad A.length cap ∧ (0 < A.length → ∃ g, ad = some ⟨g, 0, none⟩) := by
  rcases h.2 with ⟨rfl, h0⟩ | ⟨g, cap, cur, rfl, _⟩
  · exact ⟨none, 0, by rw [h0], fun h => by omega⟩
  · exact ⟨_, _, rfl, fun _ => ⟨g, rfl⟩⟩

theorem Arr.later {base : Nat} {w w' : World} {va : Value} {A : List (Int × Nat)} (h : Arr base w va A) (hg : w.grownBy w' none) : Arr base w' va A := row_off h hg (by cases va.ownBlock <;> simp)

set_option maxHeartbeats 400000 in
set_option maxRecDepth 100000 in
theorem at_ok (v : Value) (g : List St) (n : Nat) (w : World) (hG : IsGraph 0 w v g) (hn : n < g.length) :
    Calls Tryz.prog 65 #[v, .int .i64 (n : Nat)] w fun e w' => ∃ va, e = .returned (.agg #[.bool (g.getD n (false, [])).1, va]) ∧ Arr 0 w' va (g.getD n (false, [])).2 ∧ w.grownBy w' none := by
  obtain ⟨gb, cap, rfl⟩ : ∃ gb cap, v = .slice (some ⟨gb, 0, none⟩) g.length cap := by
    obtain ⟨vs, _, hr, _⟩ := hG.row
    rcases hr.2 with ⟨rfl, h0⟩ | ⟨b, cap, cur, rfl, _⟩
    · omega
    · exact ⟨_, _, rfl⟩
  obtain ⟨va, c0, c1, hA⟩ := graph_cells hG hn
  generalize (g.getD n (false, [])) = st at c0 hA
  obtain ⟨b, A⟩ := st
  simp only at c0 hA
  obtain ⟨ad, acap, rfl, _⟩ := hA.form
  have HA := hide hA
  have hni : (n : Int) < (g.length : Int) := by omega
  have hni2 : ¬ (g.length : Int) ≤ (n : Int) := by omega
  have d0 := (grownBy_none_alloc w (.cells #[.bool false, .slice none 0 0] 92)).cell c0 (by simp)
  have d1 := (grownBy_none_alloc w (.cells #[.bool false, .slice none 0 0] 92)).cell c1 (by simp)
  clear hA hG c0 c1
  go_enter Tryz.func65, Tryz.ntmps65
  go_wp2_with fail
  refine bodyPost_ret (v := .agg #[.bool b, .slice ad A.length acap]) (by simp [results, Tryz.results65, go_sem]) rfl ?_
  exact ⟨_, rfl, (unhide HA).later (grownBy_none_alloc _ _), grownBy_none_alloc _ _⟩

set_option maxHeartbeats 400000 in
set_option maxRecDepth 100000 in
theorem at_fail (v : Value) (g : List St) (n : Nat) (w : World) (hG : IsGraph 0 w v g) (hn : g.length ≤ n) :
    Calls Tryz.prog 65 #[v, .int .i64 (n : Nat)] w fun e w' => e = .panicked Up ∧ w.grownBy w' none := by
  obtain ⟨ad, cap, rfl⟩ : ∃ ad cap, v = .slice ad g.length cap := by
    obtain ⟨vs, _, hr, _⟩ := hG.row
    rcases hr.2 with ⟨rfl, h0⟩ | ⟨b, cap, cur, rfl, _⟩
    · exact ⟨none, 0, by rw [h0]⟩
    · exact ⟨_, _, rfl⟩
  have hni : (g.length : Int) ≤ (n : Int) := by omega
  have HU := hide (give_up (w.alloc (.cells #[.bool false, .slice none 0 0] 92)))
  clear hG
  go_enter Tryz.func65, Tryz.ntmps65
  go_wp2_with fail
  refine (unhide HU).mono ?_
  rintro e w1 ⟨rfl, rfl⟩
  exact ⟨rfl, rfl, grownBy_none_alloc _ _⟩

set_option maxHeartbeats 400000 in
set_option maxRecDepth 100000 in
theorem nowhere_any (b : Bool) (va : Value) (A : List (Int × Nat)) (w : World) (hA : Arr 0 w va A) :
    Calls Tryz.prog 88 #[.agg #[.bool b, va]] w fun e w' => e = .returned (.bool (nowhere (b, A))) ∧ w.grownBy w' none := by
  obtain ⟨ad, cap, rfl, _⟩ := hA.form
  clear hA
  cases b
  · cases A with
    | nil =>
      go_enter Tryz.func88, Tryz.ntmps88
      go_wp2_with fail
      go_ret
      exact ⟨rfl, grownBy_none_alloc _ _⟩
    | cons a A =>
      have hne : ¬ ((a :: A).length : Int) = 0 := by simp; omega
      generalize hN : (a :: A).length = N at hne
      go_enter Tryz.func88, Tryz.ntmps88
      go_wp2_with fail
      go_ret
      exact ⟨by simp [nowhere]; omega, grownBy_none_alloc _ _⟩
  · go_enter Tryz.func88, Tryz.ntmps88
    go_wp2_with fail
    go_ret
    exact ⟨rfl, grownBy_none_alloc _ _⟩

end Go.Proofs.YtdfnngehhiociaaGreatDoor

namespace Go.Proofs.YtdfnngehhiociaaGreatDoor
open Go.RowKit
open Go.Proofs (encStr)

/-- How a try ends. -/
def TryPost (mb : Nat) (w : World) (r : Option (List Bs)) (e : Ending) (w' : World) : Prop := w.grownBy w' (some mb) ∧ match r with
  | none => e = .panicked Up
  | some S => e = .returned (.tuple #[]) ∧ IsSet w' mb S ∧ Good S

theorem IsGraph.set {mb : Nat} {w w' : World} {v : Value} {g : List St} {S : List Bs} (h : IsGraph 0 w v g) (hS : IsSet w mb S) (hg : w.grownBy w' (some mb)) : IsGraph 0 w' v g := by
  have key : ∀ {base : Nat} {e : TypeId} {size : Nat} {u : Value} {n : Nat} {xs : List Value}, w.ownsRow base e size u n xs → w'.ownsRow base e size u n xs := by
    intro base e size u n xs hu
    refine row_off hu hg ?_
    cases hb : u.ownBlock with
    | none => exact Or.inl rfl
    | some q =>
      refine Or.inr fun e => ?_
      obtain ⟨_, c, hc⟩ := row_block hu hb
      obtain ⟨D, ⟨es, clock, hm, _⟩, _⟩ := hS
      rw [Option.some.inj e, hm] at hc
      cases hc
  obtain ⟨vs, h1, h2, h3⟩ := h.row
  exact ⟨vs, h1, key h2, fun i hi => by
    obtain ⟨u, hu, hA⟩ := h3 i hi
    exact ⟨u, hu, key hA⟩⟩

theorem Arr.set {mb : Nat} {w w' : World} {u : Value} {A : List (Int × Nat)} {S : List Bs} (h : Arr 0 w u A) (hS : IsSet w mb S) (hg : w.grownBy w' (some mb)) : Arr 0 w' u A := by
  refine row_off h hg ?_
  cases hb : u.ownBlock with
  | none => exact Or.inl rfl
  | some q =>
    refine Or.inr fun e => ?_
    obtain ⟨_, c, hc⟩ := row_block h hb
    obtain ⟨D, ⟨es, clock, hm, _⟩, _⟩ := hS
    rw [Option.some.inj e, hm] at hc
    cases hc

theorem weak {a b : World} {row : Option Nat} (h : a.grownBy b none) : a.grownBy b row := ⟨h.os, h.tape, h.output, h.size, fun k hk _ => h.block k hk (by simp)⟩

/-- What the arrows' tries are, from one on. -/
def goA (g : List St) (k : Nat) (word : Rs) (A : List (Int × Nat)) (S : List Bs) : Option (List Bs) := tryArrows (tryP comeE g k) g word A S

theorem encW_len (r : Rs) : (encW r).length ≤ 4 * r.length := by
  induction r with
  | nil => simp [encW]
  | cons x r ih =>
    have := encode_len x
    rw [encW_cons, List.length_append, List.length_cons]
    omega

theorem nextA {wr w5 : World} {va : Value} {b : Bool} {A : List (Int × Nat)} (hg : wr.grownBy w5 none) (hA : Arr 0 w5 va A) : ∀ V, V = w5.alloc (.cells #[.bool b, va] 92) → V.heap[w5.heap.size]? = some (.cells #[.bool b, va] 92 (0, 0)) ∧ Arr 0 V va A ∧ wr.grownBy V none := by
  rintro V rfl
  exact ⟨World.alloc_heap_new w5 _, hA.later (grownBy_none_alloc _ _), gnone hg (grownBy_none_alloc _ _)⟩

theorem nextB {wr w5 : World} {va u0 u1 : Value} {b : Bool} {A : List (Int × Nat)} {X : Nat} (hg : wr.grownBy w5 none) (hA : Arr 0 w5 va A) (hX : w5.heap[X]? = some (.cells #[u0, u1] 92 (0, 0))) (hl : wr.heap.size ≤ X) :
    ∀ V, V = (w5.setCell ⟨X, 0, none⟩ (.bool b)).setCell ⟨X, 1, none⟩ va → V.heap[X]? = some (.cells #[.bool b, va] 92 (0, 0)) ∧ Arr 0 V va A ∧ wr.grownBy V none := by
  rintro V rfl
  have g1 := gtrans (grown_set w5 X 0 (.bool b)) (grown_set _ X 1 va)
  refine ⟨by simp [World.setCell, Array.getElem?_modify, hX], row_off hA g1 ?_, gnew hg g1 (fun j e => by cases e; exact hl)⟩
  cases hb : va.ownBlock with
  | none => exact Or.inl rfl
  | some q =>
    refine Or.inr fun e => ?_
    obtain ⟨_, c, hc⟩ := row_block hA hb
    rw [Option.some.inj e, hX] at hc
    cases hc

/-- What is asked of a try. -/
def TrySaid (gv : Value) (g : List St) (mb k : Nat) : Prop := ∀ (b : Bool) (va : Value) (A : List (Int × Nat)) (word : Rs) (S : List Bs) (w : World), (∀ a ∈ A, RuneOk a.1) → A.length ≤ 20000 → IsGraph 0 w gv g → Arr 0 w va A → IsSet w mb S → Good S → Tabs w → k + word.length = 11 → word.length ≤ 10 → (∀ r ∈ word, RuneOk r) →
  Calls Tryz.prog 64 #[gv, .agg #[.bool b, va], encStr (encW word), .func (.func 42) #[.map (some mb)] #[]] w (TryPost mb w (tryP comeE g k (b, A) word S))

theorem set_ne {mb p o : Nat} {w : World} {S : List Bs} {v : Value} (hS : IsSet w mb S) (hc : w.cell? ⟨p, o, none⟩ = some v) : some p ≠ some mb := fun e => hS.ne hc (Option.some.inj e)

set_option maxHeartbeats 1000000 in
set_option maxRecDepth 100000 in
theorem try_step (gv : Value) (g : List St) (mb k : Nat) (hR : ∀ s ∈ g, (∀ a ∈ s.2, RuneOk a.1) ∧ s.2.length ≤ 20000) (ih : TrySaid gv g mb k) : TrySaid gv g mb (k + 1) := by
  intro b va A word S w hAR hAl hG hA hS hGd hT hk hw hok
  have he42 : ∀ args w, (callFunc 42 args).run Tryz.prog w = .ok (.enter 42 args) w := enters_of Tryz.func42 (by kernel_rfl) rfl
  have hwl := encW_len word
  obtain ⟨ad, cap, rfl, had⟩ := hA.form
  obtain ⟨R, hRR⟩ : ∃ R, R = tryP comeE g (k + 1) (b, A) word S := ⟨_, rfl⟩
  rw [← hRR]
  obtain ⟨W0, hW0⟩ : ∃ W0, W0 = w.alloc (.cells #[.bool b, .slice ad A.length cap] 92) := ⟨_, rfl⟩
  have hg0 : w.grownBy W0 none := by rw [hW0]; exact grownBy_none_alloc _ _
  have hb0 : W0.heap[w.heap.size]? = some (.cells #[.bool b, .slice ad A.length cap] 92 (0, 0)) := by rw [hW0]; exact World.alloc_heap_new w _
  have hS0 := hS.kept hg0 (by simp)
  have e0 : W0.cell? ⟨w.heap.size, 0, none⟩ = some (.bool b) := by rw [cell_of_row _ _ _ _ _ _ hb0]; rfl
  have e1 : W0.cell? ⟨w.heap.size, 1, none⟩ = some (.slice ad A.length cap) := by rw [cell_of_row _ _ _ _ _ _ hb0]; rfl
  have hc := come_any valid_said mb S ⟨(encW word).toArray⟩ W0 hS0 (hT.none hg0) (by show (encW word).toArray.size ≤ _; rw [List.size_toArray]; omega) hGd.1
  rw [bytes_str] at hc
  have HC := hide hc
  have hG0 := hG.later hg0
  have hA0 := hA.later hg0
  have hX : (b = false ∧ goA g k word A S = R) ∨ (b = true ∧ comeE S (encW word) = 0 ∧ goA g k word A (S ++ [encW word]) = R) ∨ (b = true ∧ comeE S (encW word) ≠ 0 ∧ R = none) := by
    rw [hRR]
    cases b
    · exact Or.inl ⟨rfl, rfl⟩
    · by_cases h0 : comeE S (encW word) = 0
      · refine Or.inr (Or.inl ⟨rfl, h0, ?_⟩)
        show _ = if _ then _ else _
        rw [if_pos rfl, if_pos h0]
        rfl
      · refine Or.inr (Or.inr ⟨rfl, h0, ?_⟩)
        show (if _ then _ else _) = _
        rw [if_pos rfl, if_neg h0]
  clear hRR hc
  rcases hX with ⟨rfl, hRes⟩ | ⟨rfl, h0, hRes⟩ | ⟨rfl, h0, rfl⟩
  case inr.inr =>
    rw [if_neg h0] at HC
    generalize comeE S (encW word) = c at HC h0
    have Hg0 := hide hg0
    have hcb : (c == 0) = false := by simpa using h0
    clear hG0 hA0 hS0 hGd hg0 hb0 hG hA hS e1
    go_enter Tryz.func64, Tryz.ntmps64
    go_wp2_with fail
    rw [← hW0]
    refine (unhide HC).mono ?_
    rintro e w1 ⟨rfl, hS1, hg1⟩
    have HU := hide (give_up w1)
    clear hW0
    go_wp2_with fail
    refine (unhide HU).mono ?_
    rintro e w2 ⟨rfl, rfl⟩
    exact ⟨rfl, gtrans (weak (unhide Hg0)) hg1, rfl⟩
  case inl =>
    have HST : Hid (IsGraph 0 W0 gv g ∧ Arr 0 W0 (.slice ad A.length cap) A ∧ IsSet W0 mb S ∧ Good S ∧ w.grownBy W0 (some mb) ∧ goA g k word A S = R) := ⟨hG0, hA0, hS0, hGd, weak hg0, hRes⟩
    have HSS := hide hS
    clear hG0 hA0 hS0 hGd hg0 hRes hb0 HC hG hA hS e0 e1
    go_enter Tryz.func64, Tryz.ntmps64
    go_wp2_with fail
    rw [← hW0]
    clear hW0
    go_loopw [24] (fun x wr => ∃ (i : Nat) (Si : List Bs), i ≤ A.length ∧ x = .int .i64 i ∧ Hid (IsGraph 0 wr gv g ∧ Arr 0 wr (.slice ad A.length cap) A ∧ IsSet wr mb Si ∧ Good Si ∧ w.grownBy wr (some mb) ∧ goA g k word (A.drop i) Si = R)) (fun x _ => A.length - (intOf x).toNat)
    case atStart => exact ⟨0, _, Nat.zero_le _, rfl, HST⟩
    case round =>
      clear HST
      obtain ⟨i, Si, hi, rfl, HX⟩ := hrel
      obtain ⟨xG, xA, xS, xGd, xg, xR⟩ := unhide HX
      clear HX
      by_cases hlt : i < A.length
      · obtain ⟨ga, rfl⟩ := had (by omega)
        obtain ⟨d0, d1⟩ := arr_cells xA hlt
        have hdrop : A.drop i = A.getD i (0, 0) :: A.drop (i + 1) := by
          rw [List.drop_eq_getElem_cons hlt]
          simp [List.getD, hlt]
        have hmem : A.getD i (0, 0) ∈ A := by simp [List.getD, hlt]
        have hrok := hAR _ hmem
        generalize A.getD i (0, 0) = q at d0 d1 hdrop hrok
        obtain ⟨r, c⟩ := q
        rw [hdrop] at xR
        simp only at d0 d1 hrok
        have hg1 : wr.grownBy (wr.alloc (.cells #[.int .i32 r, .int .i64 (c : Nat)] 134)).drew none := gnone (grownBy_none_alloc _ _) (grownBy_drew (grownBy_refl _ _))
        have henc := encode_model hrok
        have hel := encode_len r
        have hcat : (⟨(encW word).toArray⟩ : ByteArray) ++ Utf8.encode r = ⟨(encW (word ++ [r])).toArray⟩ := by
          rw [henc, bytes_append, encW_append]
          simp [encW]
        have hsz : ¬ 9223372036854775807 < (encW word).length + (Utf8.encode r).size := by
          rw [henc]
          show ¬ _ < _ + (Lib.encodeRune r).toArray.size
          rw [List.size_toArray]
          omega
        clear henc hel hdrop hmem
        cases hgc : g[c]? with
        | none =>
          have hcl : g.length ≤ c := List.getElem?_eq_none_iff.1 hgc
          have HAT : Hid (∀ W, wr.grownBy W none → Calls Tryz.prog 65 #[gv, .int .i64 (c : Nat)] W fun e w' => e = .panicked Up ∧ W.grownBy w' none) := fun W hW => at_fail gv g c W (xG.later hW) hcl
          obtain rfl : R = none := by
            rw [← xR]
            show (match g[c]? with | none => none | some next => if nowhere next = true ∨ 10 < word.length + 1 then none else (tryP comeE g k next (word ++ [r]) Si).bind (tryArrows (tryP comeE g k) g word (A.drop (i + 1)))) = _
            rw [hgc]
          have z0 : ((wr.alloc (.cells #[.int .i32 r, .int .i64 (c : Nat)] 134)).drew.alloc (.cells #[.bool false, .slice none 0 0] 92)).cell? ⟨wr.heap.size, 0, none⟩ = some (.int .i32 r) := (grownBy_none_alloc _ _).cell (by
            show (wr.alloc (.cells #[.int .i32 r, .int .i64 (c : Nat)] 134)).cell? ⟨wr.heap.size, 0, none⟩ = some (.int .i32 r)
            rw [cell_of_row _ _ _ _ _ (0, 0) (Go.heap_alloc_new wr _)]
            rfl) (by simp)
          have z1 : ((wr.alloc (.cells #[.int .i32 r, .int .i64 (c : Nat)] 134)).drew.alloc (.cells #[.bool false, .slice none 0 0] 92)).cell? ⟨wr.heap.size, 1, none⟩ = some (.int .i64 (c : Nat)) := (grownBy_none_alloc _ _).cell (by
            show (wr.alloc (.cells #[.int .i32 r, .int .i64 (c : Nat)] 134)).cell? ⟨wr.heap.size, 1, none⟩ = some (.int .i64 (c : Nat))
            rw [cell_of_row _ _ _ _ _ (0, 0) (Go.heap_alloc_new wr _)]
            rfl) (by simp)
          have Hg1 := hide hg1
          have Hxg := hide xg
          clear xG xA xS xGd xg xR hg1 hcl hcat
          go_wp2_with fail
          go_region_law (first
            | (go_simp; go_at_call 65; refine (unhide HAT _ (unhide Hg1)).mono ?_; rintro e w5 ⟨rfl, hg5⟩; refine ended ⟨rfl, gnone (unhide Hxg) (gnone (unhide Hg1) hg5), rfl⟩ w ?_)
            | (go_simp; go_at_call 65; refine (unhide HAT _ (gnone (unhide Hg1) (grownBy_none_alloc _ _))).mono ?_; rintro e w5 ⟨rfl, hg5⟩; refine ended ⟨rfl, gnone (unhide Hxg) (gnone (gnone (unhide Hg1) (grownBy_none_alloc _ _)) hg5), rfl⟩ w ?_))
          all_goals exact trivial
        | some next =>
          have hcl : c < g.length := (List.getElem?_eq_some_iff.1 hgc).1
          have HAT : Hid (∀ W, wr.grownBy W none → Calls Tryz.prog 65 #[gv, .int .i64 (c : Nat)] W fun e w' => ∃ va, e = .returned (.agg #[.bool next.1, va]) ∧ Arr 0 w' va next.2 ∧ W.grownBy w' none) := by
            intro W hW
            have := at_ok gv g c W (xG.later hW) hcl
            rw [show g.getD c (false, []) = next from by simp [List.getD, hgc]] at this
            exact this
          obtain ⟨b2, A2⟩ := next
          simp only at HAT
          have HXS : Hid (IsGraph 0 wr gv g ∧ Arr 0 wr (.slice (some ⟨ga, 0, none⟩) A.length cap) A ∧ IsSet wr mb Si ∧ Good Si ∧ w.grownBy wr (some mb)) := ⟨xG, xA, xS, xGd, xg⟩
          have HXR := hide xR
          have Hg1 := hide hg1
          have HZ0 : Hid ((wr.alloc (.cells #[.int .i32 r, .int .i64 (c : Nat)] 134)).drew.cell? ⟨wr.heap.size, 0, none⟩ = some (.int .i32 r)) := by
            show (wr.alloc (.cells #[.int .i32 r, .int .i64 (c : Nat)] 134)).cell? ⟨wr.heap.size, 0, none⟩ = some (.int .i32 r)
            rw [cell_of_row _ _ _ _ _ (0, 0) (Go.heap_alloc_new wr _)]
            rfl
          have HZ1 : Hid ((wr.alloc (.cells #[.int .i32 r, .int .i64 (c : Nat)] 134)).drew.cell? ⟨wr.heap.size, 1, none⟩ = some (.int .i64 (c : Nat))) := by
            show (wr.alloc (.cells #[.int .i32 r, .int .i64 (c : Nat)] 134)).cell? ⟨wr.heap.size, 1, none⟩ = some (.int .i64 (c : Nat))
            rw [cell_of_row _ _ _ _ _ (0, 0) (Go.heap_alloc_new wr _)]
            rfl
          have z0 := (grownBy_none_alloc (wr.alloc (.cells #[.int .i32 r, .int .i64 (c : Nat)] 134)).drew (.cells #[.bool false, .slice none 0 0] 92)).cell (unhide HZ0) (by simp)
          have z1 := (grownBy_none_alloc (wr.alloc (.cells #[.int .i32 r, .int .i64 (c : Nat)] 134)).drew (.cells #[.bool false, .slice none 0 0] 92)).cell (unhide HZ1) (by simp)
          have Z0 := hide z0
          have ZX : Hid (((wr.alloc (.cells #[.int .i32 r, .int .i64 (c : Nat)] 134)).drew.alloc (.cells #[.bool false, .slice none 0 0] 92)).heap[wr.heap.size + 1]? = some (.cells #[.bool false, .slice none 0 0] 92 (0, 0))) := by
            have := World.alloc_heap_new (wr.alloc (.cells #[.int .i32 r, .int .i64 (c : Nat)] 134)).drew (.cells #[.bool false, .slice none 0 0] 92)
            have e : (wr.alloc (.cells #[.int .i32 r, .int .i64 (c : Nat)] 134)).drew.heap.size = wr.heap.size + 1 := World.size_alloc _ _
            rw [e] at this
            exact this
          clear xG xA xS xGd xg xR hg1 hcl
          go_upto_region 6 with fail
          go_cut [10, 11, 24] from 24 to 50 (fun s t x wx => x = .int .i64 i ∧ t = encStr (encW (word ++ [r])) ∧ ∃ X va2, s = .pointer (some ⟨X, 0, none⟩) ∧ Hid (wx.heap[X]? = some (.cells #[.bool b2, va2] 92 (0, 0)) ∧ Arr 0 wx va2 A2 ∧ wr.grownBy wx none))
          case first =>
            go_region_law (first
              | (go_simp; go_at_call 65; refine (unhide HAT _ (unhide Hg1)).mono ?_; rintro e w5 ⟨va2, rfl, hA5, hg5⟩; have a0 := hg5.cell (unhide HZ0) (by simp); obtain ⟨vad, vn, rfl, _⟩ := hA5.form; have a0z := (grownBy_none_alloc w5 (.cells #[.bool false, .slice none 0 0] 92)).cell a0 (by simp); have a0f := (grownBy_none_alloc w5 (.cells #[.bool b2, .slice vad A2.length vn] 92)).cell a0 (by simp); have HF := hide (nextA (b := b2) (gnone (unhide Hg1) hg5) hA5); clear hA5 hg5)
              | (go_simp; go_at_call 65; refine (unhide HAT _ (gnone (unhide Hg1) (grownBy_none_alloc _ _))).mono ?_; rintro e w5 ⟨va2, rfl, hA5, hg5⟩; have a0 := hg5.cell (unhide Z0) (by simp); obtain ⟨vad, vn, rfl, _⟩ := hA5.form; have x5 := (hg5.block _ (Array.getElem?_eq_some_iff.1 (unhide ZX)).1 (by simp)).trans (unhide ZX); have x0 : w5.cell? ⟨wr.heap.size + 1, 0, none⟩ = some (.bool false) := (by rw [cell_of_row _ _ _ _ _ _ x5]; rfl); have x1 : w5.cell? ⟨wr.heap.size + 1, 1, none⟩ = some (.slice none 0 0) := (by rw [cell_of_row _ _ _ _ _ _ x5]; rfl); have y0 : w5.frozen? ⟨wr.heap.size + 1, 0, none⟩ = false := (by simp [World.frozen?, x5]); have y1 : w5.frozen? ⟨wr.heap.size + 1, 1, none⟩ = false := (by simp [World.frozen?, x5]); have HF := hide (nextB (b := b2) (gnone (gnone (unhide Hg1) (grownBy_none_alloc _ _)) hg5) hA5 x5 (Nat.le_succ _)); clear hA5 hg5 x5))
            all_goals
              go_wp2_with fail
              go_meet
              case rel => exact ⟨rfl, rfl, _, _, rfl, unhide HF _ rfl⟩
          case rest =>
            obtain ⟨rfl, rfl, X, va2, rfl, HW⟩ := hcut
            obtain ⟨hX, hA2, hgW⟩ := unhide HW
            obtain ⟨vad, vn, rfl, _⟩ := hA2.form
            have x0 : wc.cell? ⟨X, 0, none⟩ = some (.bool b2) := by rw [cell_of_row _ _ _ _ _ _ hX]; rfl
            have x1 : wc.cell? ⟨X, 1, none⟩ = some (.slice vad A2.length vn) := by rw [cell_of_row _ _ _ _ _ _ hX]; rfl
            have HNW := hide (nowhere_any b2 (.slice vad A2.length vn) A2 wc hA2)
            clear hX hA2 hgW Z0 ZX HZ0 HZ1 z0 z1 hcat hsz HAT Hg1 d0 d1
            go_wp2_with fail
            refine (unhide HNW).mono ?_
            rintro e w6 ⟨rfl, hg6⟩
            have hxR : goA g k word ((r, c) :: A.drop (i + 1)) Si = if nowhere (b2, A2) = true ∨ 10 < word.length + 1 then none else (tryP comeE g k (b2, A2) (word ++ [r]) Si).bind (goA g k word (A.drop (i + 1))) := by
              show (match g[c]? with | none => none | some next => if nowhere next = true ∨ 10 < word.length + 1 then none else (tryP comeE g k next (word ++ [r]) Si).bind (tryArrows (tryP comeE g k) g word (A.drop (i + 1)))) = _
              rw [hgc]
              rfl
            rw [unhide HXR] at hxR
            cases hnw : nowhere (b2, A2) with
            | true =>
              rw [hnw, if_pos (Or.inl rfl)] at hxR
              subst hxR
              have HU := hide (give_up w6)
              have Hg6 := hide hg6
              clear hg6
              go_wp2_with fail
              refine (unhide HU).mono ?_
              rintro e w7 ⟨rfl, rfl⟩
              exact ⟨rfl, gnone (unhide HXS).2.2.2.2 (gnone (unhide HW).2.2 (unhide Hg6)), rfl⟩
            | false =>
              have hcnt := Tryz.utf8_RuneCountInString ⟨(encW (word ++ [r])).toArray⟩ w6 (by show (encW (word ++ [r])).toArray.size < _; rw [List.size_toArray]; have := encW_len (word ++ [r]); rw [List.length_append, List.length_singleton] at this; omega)
              have hrl : ∀ x ∈ word ++ [r], RuneOk x := by
                intro x hx
                rcases List.mem_append.1 hx with hx | hx
                · exact hok x hx
                · simp at hx; subst hx; exact hrok
              have hrc : Lib.runeCount ⟨(encW (word ++ [r])).toArray⟩ = word.length + 1 := by
                rw [count_runes]
                show (runesD (encW (word ++ [r]))).length = _
                rw [runes_encW _ hrl]
                simp
              rw [hrc] at hcnt
              have HCN := hide hcnt
              have Hg6 := hide hg6
              have x0' := hg6.cell x0 (by simp)
              have x1' := hg6.cell x1 (by simp)
              clear hcnt hrc hg6
              by_cases h10 : 10 < word.length + 1
              · rw [hnw, if_pos (Or.inr h10)] at hxR
                subst hxR
                have h10i : (10 : Int) < ((word.length + 1 : Nat) : Int) := by omega
                go_wp2_with fail
                refine (unhide HCN).mono ?_
                rintro e w7 ⟨rfl, pos, rfl⟩
                have HU := hide (give_up (w6.iter ⟨(encW (word ++ [r])).toArray⟩ pos))
                go_wp2_with fail
                refine (unhide HU).mono ?_
                rintro e w7 ⟨rfl, rfl⟩
                exact ⟨rfl, gnone (unhide HXS).2.2.2.2 (gnone (unhide HW).2.2 (gnone (unhide Hg6) (grownBy_none_alloc _ _))), rfl⟩
              · have hxR' := hxR
                rw [hnw, if_neg (by intro h; rcases h with h | h; cases h; exact h10 h)] at hxR'
                have h10i : ¬ (10 : Int) < ((word.length + 1 : Nat) : Int) := by omega
                have HXX := hide hxR'
                clear hxR hxR'
                go_wp2_with fail
                refine (unhide HCN).mono ?_
                rintro e w7 ⟨rfl, pos, hw7⟩
                have hg67 : w6.grownBy w7 none := by rw [hw7]; exact grownBy_none_alloc _ _
                clear hw7
                have hgr7 : wr.grownBy w7 none := gnone (gnone (unhide HW).2.2 (unhide Hg6)) hg67
                obtain ⟨yG, yA, yS, yGd, yg⟩ := unhide HXS
                have hA7 : Arr 0 w7 (.slice vad A2.length vn) A2 := ((unhide HW).2.1.later (unhide Hg6)).later hg67
                have HI := ih b2 (.slice vad A2.length vn) A2 (word ++ [r]) Si w7 (hR (b2, A2) (List.mem_of_getElem? hgc)).1 (hR (b2, A2) (List.mem_of_getElem? hgc)).2 (yG.later hgr7) hA7 (yS.kept hgr7 (by simp)) yGd (hT.set (unhide HSS) (gnone yg hgr7)) (by rw [List.length_append, List.length_singleton]; omega) (by rw [List.length_append, List.length_singleton]; omega) hrl
                have x0'' := hg67.cell x0' (by simp)
                have x1'' := hg67.cell x1' (by simp)
                have hS7 := yS.kept hgr7 (by simp)
                have H7 : Hid (IsGraph 0 w7 gv g ∧ Arr 0 w7 (.slice (some ⟨ga, 0, none⟩) A.length cap) A ∧ IsSet w7 mb Si ∧ w.grownBy w7 (some mb)) := ⟨yG.later hgr7, yA.later hgr7, hS7, gnone yg hgr7⟩
                clear yG yA yS yGd yg hA7 hgr7 hg67 hS7 x0 x1 x0' x1'
                cases hrec : tryP comeE g k (b2, A2) (word ++ [r]) Si with
                | none =>
                  rw [hrec] at HI HXX
                  have HI := hide HI
                  obtain rfl : R = none := unhide HXX
                  go_wp2_with fail
                  refine (unhide HI).mono ?_
                  rintro e w8 ⟨hg8, rfl⟩
                  exact ⟨rfl, gtrans (unhide H7).2.2.2 hg8, rfl⟩
                | some S2 =>
                  rw [hrec] at HI HXX
                  have HI := hide HI
                  go_wp2_with fail
                  refine (unhide HI).mono ?_
                  rintro e w8 ⟨hg8, rfl, hS8, hGd8⟩
                  have H8 : Hid (IsGraph 0 w8 gv g ∧ Arr 0 w8 (.slice (some ⟨ga, 0, none⟩) A.length cap) A ∧ IsSet w8 mb S2 ∧ Good S2 ∧ w.grownBy w8 (some mb) ∧ goA g k word (A.drop (i + 1)) S2 = R) :=
                    ⟨(unhide H7).1.set (unhide H7).2.2.1 hg8, (unhide H7).2.1.set (unhide H7).2.2.1 hg8, hS8, hGd8, gtrans (unhide H7).2.2.2 hg8, (unhide HXX).symm⟩
                  clear hg8 hS8 hGd8
                  go_wp2_with fail
                  go_roundw
                  case rel => exact ⟨i + 1, S2, by omega, by go_num, H8⟩
                  case measure => simp [intOf]; omega
      · obtain rfl : i = A.length := by omega
        rw [List.drop_length] at xR
        have hR2 : some Si = R := xR
        subst hR2
        go_wp2_with fail
        go_end0
        exact ⟨xg, rfl, xS, xGd⟩
  case inr.inl =>
    rw [if_pos h0] at HC
    rw [h0] at HC
    have HSS := hide hS
    have e1k := fun (w1 : World) (hg1 : W0.grownBy w1 (some mb)) => hg1.cell e1 (set_ne hS0 e1)
    have E1 := hide e1k
    have HP1 : Hid (∀ w1, IsSet w1 mb (S ++ [encW word]) → W0.grownBy w1 (some mb) → IsGraph 0 w1 gv g ∧ Arr 0 w1 (.slice ad A.length cap) A ∧ IsSet w1 mb (S ++ [encW word]) ∧ Good (S ++ [encW word]) ∧ w.grownBy w1 (some mb) ∧ goA g k word A (S ++ [encW word]) = R) := fun w1 hS1 hg1 => ⟨hG0.set hS0 hg1, hA0.set hS0 hg1, hS1, good_come hGd h0, gtrans (weak hg0) hg1, hRes⟩
    clear h0 hG0 hA0 hS0 hGd hg0 hRes hb0 hG hA hS e0 e1 e1k
    go_enter Tryz.func64, Tryz.ntmps64
    go_wp2_with fail
    rw [← hW0]
    refine (unhide HC).mono ?_
    rintro e w1 ⟨rfl, hS1, hg1⟩
    have e2 := unhide E1 w1 hg1
    have HST := hide (unhide HP1 w1 hS1 hg1)
    clear hS1 hg1 hW0 E1 HP1 HC
    go_wp2_with fail
    go_loopw [24] (fun x wr => ∃ (i : Nat) (Si : List Bs), i ≤ A.length ∧ x = .int .i64 i ∧ Hid (IsGraph 0 wr gv g ∧ Arr 0 wr (.slice ad A.length cap) A ∧ IsSet wr mb Si ∧ Good Si ∧ w.grownBy wr (some mb) ∧ goA g k word (A.drop i) Si = R)) (fun x _ => A.length - (intOf x).toNat)
    case atStart => exact ⟨0, _, Nat.zero_le _, rfl, HST⟩
    case round =>
      clear HST
      obtain ⟨i, Si, hi, rfl, HX⟩ := hrel
      obtain ⟨xG, xA, xS, xGd, xg, xR⟩ := unhide HX
      clear HX
      by_cases hlt : i < A.length
      · obtain ⟨ga, rfl⟩ := had (by omega)
        obtain ⟨d0, d1⟩ := arr_cells xA hlt
        have hdrop : A.drop i = A.getD i (0, 0) :: A.drop (i + 1) := by
          rw [List.drop_eq_getElem_cons hlt]
          simp [List.getD, hlt]
        have hmem : A.getD i (0, 0) ∈ A := by simp [List.getD, hlt]
        have hrok := hAR _ hmem
        generalize A.getD i (0, 0) = q at d0 d1 hdrop hrok
        obtain ⟨r, c⟩ := q
        rw [hdrop] at xR
        simp only at d0 d1 hrok
        have hg1 : wr.grownBy (wr.alloc (.cells #[.int .i32 r, .int .i64 (c : Nat)] 134)).drew none := gnone (grownBy_none_alloc _ _) (grownBy_drew (grownBy_refl _ _))
        have henc := encode_model hrok
        have hel := encode_len r
        have hcat : (⟨(encW word).toArray⟩ : ByteArray) ++ Utf8.encode r = ⟨(encW (word ++ [r])).toArray⟩ := by
          rw [henc, bytes_append, encW_append]
          simp [encW]
        have hsz : ¬ 9223372036854775807 < (encW word).length + (Utf8.encode r).size := by
          rw [henc]
          show ¬ _ < _ + (Lib.encodeRune r).toArray.size
          rw [List.size_toArray]
          omega
        clear henc hel hdrop hmem
        cases hgc : g[c]? with
        | none =>
          have hcl : g.length ≤ c := List.getElem?_eq_none_iff.1 hgc
          have HAT : Hid (∀ W, wr.grownBy W none → Calls Tryz.prog 65 #[gv, .int .i64 (c : Nat)] W fun e w' => e = .panicked Up ∧ W.grownBy w' none) := fun W hW => at_fail gv g c W (xG.later hW) hcl
          obtain rfl : R = none := by
            rw [← xR]
            show (match g[c]? with | none => none | some next => if nowhere next = true ∨ 10 < word.length + 1 then none else (tryP comeE g k next (word ++ [r]) Si).bind (tryArrows (tryP comeE g k) g word (A.drop (i + 1)))) = _
            rw [hgc]
          have z0 : ((wr.alloc (.cells #[.int .i32 r, .int .i64 (c : Nat)] 134)).drew.alloc (.cells #[.bool false, .slice none 0 0] 92)).cell? ⟨wr.heap.size, 0, none⟩ = some (.int .i32 r) := (grownBy_none_alloc _ _).cell (by
            show (wr.alloc (.cells #[.int .i32 r, .int .i64 (c : Nat)] 134)).cell? ⟨wr.heap.size, 0, none⟩ = some (.int .i32 r)
            rw [cell_of_row _ _ _ _ _ (0, 0) (Go.heap_alloc_new wr _)]
            rfl) (by simp)
          have z1 : ((wr.alloc (.cells #[.int .i32 r, .int .i64 (c : Nat)] 134)).drew.alloc (.cells #[.bool false, .slice none 0 0] 92)).cell? ⟨wr.heap.size, 1, none⟩ = some (.int .i64 (c : Nat)) := (grownBy_none_alloc _ _).cell (by
            show (wr.alloc (.cells #[.int .i32 r, .int .i64 (c : Nat)] 134)).cell? ⟨wr.heap.size, 1, none⟩ = some (.int .i64 (c : Nat))
            rw [cell_of_row _ _ _ _ _ (0, 0) (Go.heap_alloc_new wr _)]
            rfl) (by simp)
          have Hg1 := hide hg1
          have Hxg := hide xg
          clear xG xA xS xGd xg xR hg1 hcl hcat
          go_wp2_with fail
          go_region_law (first
            | (go_simp; go_at_call 65; refine (unhide HAT _ (unhide Hg1)).mono ?_; rintro e w5 ⟨rfl, hg5⟩; refine ended ⟨rfl, gnone (unhide Hxg) (gnone (unhide Hg1) hg5), rfl⟩ w ?_)
            | (go_simp; go_at_call 65; refine (unhide HAT _ (gnone (unhide Hg1) (grownBy_none_alloc _ _))).mono ?_; rintro e w5 ⟨rfl, hg5⟩; refine ended ⟨rfl, gnone (unhide Hxg) (gnone (gnone (unhide Hg1) (grownBy_none_alloc _ _)) hg5), rfl⟩ w ?_))
          all_goals exact trivial
        | some next =>
          have hcl : c < g.length := (List.getElem?_eq_some_iff.1 hgc).1
          have HAT : Hid (∀ W, wr.grownBy W none → Calls Tryz.prog 65 #[gv, .int .i64 (c : Nat)] W fun e w' => ∃ va, e = .returned (.agg #[.bool next.1, va]) ∧ Arr 0 w' va next.2 ∧ W.grownBy w' none) := by
            intro W hW
            have := at_ok gv g c W (xG.later hW) hcl
            rw [show g.getD c (false, []) = next from by simp [List.getD, hgc]] at this
            exact this
          obtain ⟨b2, A2⟩ := next
          simp only at HAT
          have HXS : Hid (IsGraph 0 wr gv g ∧ Arr 0 wr (.slice (some ⟨ga, 0, none⟩) A.length cap) A ∧ IsSet wr mb Si ∧ Good Si ∧ w.grownBy wr (some mb)) := ⟨xG, xA, xS, xGd, xg⟩
          have HXR := hide xR
          have Hg1 := hide hg1
          have HZ0 : Hid ((wr.alloc (.cells #[.int .i32 r, .int .i64 (c : Nat)] 134)).drew.cell? ⟨wr.heap.size, 0, none⟩ = some (.int .i32 r)) := by
            show (wr.alloc (.cells #[.int .i32 r, .int .i64 (c : Nat)] 134)).cell? ⟨wr.heap.size, 0, none⟩ = some (.int .i32 r)
            rw [cell_of_row _ _ _ _ _ (0, 0) (Go.heap_alloc_new wr _)]
            rfl
          have HZ1 : Hid ((wr.alloc (.cells #[.int .i32 r, .int .i64 (c : Nat)] 134)).drew.cell? ⟨wr.heap.size, 1, none⟩ = some (.int .i64 (c : Nat))) := by
            show (wr.alloc (.cells #[.int .i32 r, .int .i64 (c : Nat)] 134)).cell? ⟨wr.heap.size, 1, none⟩ = some (.int .i64 (c : Nat))
            rw [cell_of_row _ _ _ _ _ (0, 0) (Go.heap_alloc_new wr _)]
            rfl
          have z0 := (grownBy_none_alloc (wr.alloc (.cells #[.int .i32 r, .int .i64 (c : Nat)] 134)).drew (.cells #[.bool false, .slice none 0 0] 92)).cell (unhide HZ0) (by simp)
          have z1 := (grownBy_none_alloc (wr.alloc (.cells #[.int .i32 r, .int .i64 (c : Nat)] 134)).drew (.cells #[.bool false, .slice none 0 0] 92)).cell (unhide HZ1) (by simp)
          have Z0 := hide z0
          have ZX : Hid (((wr.alloc (.cells #[.int .i32 r, .int .i64 (c : Nat)] 134)).drew.alloc (.cells #[.bool false, .slice none 0 0] 92)).heap[wr.heap.size + 1]? = some (.cells #[.bool false, .slice none 0 0] 92 (0, 0))) := by
            have := World.alloc_heap_new (wr.alloc (.cells #[.int .i32 r, .int .i64 (c : Nat)] 134)).drew (.cells #[.bool false, .slice none 0 0] 92)
            have e : (wr.alloc (.cells #[.int .i32 r, .int .i64 (c : Nat)] 134)).drew.heap.size = wr.heap.size + 1 := World.size_alloc _ _
            rw [e] at this
            exact this
          clear xG xA xS xGd xg xR hg1 hcl
          go_upto_region 6 with fail
          go_cut [10, 11, 24] from 24 to 50 (fun s t x wx => x = .int .i64 i ∧ t = encStr (encW (word ++ [r])) ∧ ∃ X va2, s = .pointer (some ⟨X, 0, none⟩) ∧ Hid (wx.heap[X]? = some (.cells #[.bool b2, va2] 92 (0, 0)) ∧ Arr 0 wx va2 A2 ∧ wr.grownBy wx none))
          case first =>
            go_region_law (first
              | (go_simp; go_at_call 65; refine (unhide HAT _ (unhide Hg1)).mono ?_; rintro e w5 ⟨va2, rfl, hA5, hg5⟩; have a0 := hg5.cell (unhide HZ0) (by simp); obtain ⟨vad, vn, rfl, _⟩ := hA5.form; have a0z := (grownBy_none_alloc w5 (.cells #[.bool false, .slice none 0 0] 92)).cell a0 (by simp); have a0f := (grownBy_none_alloc w5 (.cells #[.bool b2, .slice vad A2.length vn] 92)).cell a0 (by simp); have HF := hide (nextA (b := b2) (gnone (unhide Hg1) hg5) hA5); clear hA5 hg5)
              | (go_simp; go_at_call 65; refine (unhide HAT _ (gnone (unhide Hg1) (grownBy_none_alloc _ _))).mono ?_; rintro e w5 ⟨va2, rfl, hA5, hg5⟩; have a0 := hg5.cell (unhide Z0) (by simp); obtain ⟨vad, vn, rfl, _⟩ := hA5.form; have x5 := (hg5.block _ (Array.getElem?_eq_some_iff.1 (unhide ZX)).1 (by simp)).trans (unhide ZX); have x0 : w5.cell? ⟨wr.heap.size + 1, 0, none⟩ = some (.bool false) := (by rw [cell_of_row _ _ _ _ _ _ x5]; rfl); have x1 : w5.cell? ⟨wr.heap.size + 1, 1, none⟩ = some (.slice none 0 0) := (by rw [cell_of_row _ _ _ _ _ _ x5]; rfl); have y0 : w5.frozen? ⟨wr.heap.size + 1, 0, none⟩ = false := (by simp [World.frozen?, x5]); have y1 : w5.frozen? ⟨wr.heap.size + 1, 1, none⟩ = false := (by simp [World.frozen?, x5]); have HF := hide (nextB (b := b2) (gnone (gnone (unhide Hg1) (grownBy_none_alloc _ _)) hg5) hA5 x5 (Nat.le_succ _)); clear hA5 hg5 x5))
            all_goals
              go_wp2_with fail
              go_meet
              case rel => exact ⟨rfl, rfl, _, _, rfl, unhide HF _ rfl⟩
          case rest =>
            obtain ⟨rfl, rfl, X, va2, rfl, HW⟩ := hcut
            obtain ⟨hX, hA2, hgW⟩ := unhide HW
            obtain ⟨vad, vn, rfl, _⟩ := hA2.form
            have x0 : wc.cell? ⟨X, 0, none⟩ = some (.bool b2) := by rw [cell_of_row _ _ _ _ _ _ hX]; rfl
            have x1 : wc.cell? ⟨X, 1, none⟩ = some (.slice vad A2.length vn) := by rw [cell_of_row _ _ _ _ _ _ hX]; rfl
            have HNW := hide (nowhere_any b2 (.slice vad A2.length vn) A2 wc hA2)
            clear hX hA2 hgW Z0 ZX HZ0 HZ1 z0 z1 hcat hsz HAT Hg1 d0 d1
            go_wp2_with fail
            refine (unhide HNW).mono ?_
            rintro e w6 ⟨rfl, hg6⟩
            have hxR : goA g k word ((r, c) :: A.drop (i + 1)) Si = if nowhere (b2, A2) = true ∨ 10 < word.length + 1 then none else (tryP comeE g k (b2, A2) (word ++ [r]) Si).bind (goA g k word (A.drop (i + 1))) := by
              show (match g[c]? with | none => none | some next => if nowhere next = true ∨ 10 < word.length + 1 then none else (tryP comeE g k next (word ++ [r]) Si).bind (tryArrows (tryP comeE g k) g word (A.drop (i + 1)))) = _
              rw [hgc]
              rfl
            rw [unhide HXR] at hxR
            cases hnw : nowhere (b2, A2) with
            | true =>
              rw [hnw, if_pos (Or.inl rfl)] at hxR
              subst hxR
              have HU := hide (give_up w6)
              have Hg6 := hide hg6
              clear hg6
              go_wp2_with fail
              refine (unhide HU).mono ?_
              rintro e w7 ⟨rfl, rfl⟩
              exact ⟨rfl, gnone (unhide HXS).2.2.2.2 (gnone (unhide HW).2.2 (unhide Hg6)), rfl⟩
            | false =>
              have hcnt := Tryz.utf8_RuneCountInString ⟨(encW (word ++ [r])).toArray⟩ w6 (by show (encW (word ++ [r])).toArray.size < _; rw [List.size_toArray]; have := encW_len (word ++ [r]); rw [List.length_append, List.length_singleton] at this; omega)
              have hrl : ∀ x ∈ word ++ [r], RuneOk x := by
                intro x hx
                rcases List.mem_append.1 hx with hx | hx
                · exact hok x hx
                · simp at hx; subst hx; exact hrok
              have hrc : Lib.runeCount ⟨(encW (word ++ [r])).toArray⟩ = word.length + 1 := by
                rw [count_runes]
                show (runesD (encW (word ++ [r]))).length = _
                rw [runes_encW _ hrl]
                simp
              rw [hrc] at hcnt
              have HCN := hide hcnt
              have Hg6 := hide hg6
              have x0' := hg6.cell x0 (by simp)
              have x1' := hg6.cell x1 (by simp)
              clear hcnt hrc hg6
              by_cases h10 : 10 < word.length + 1
              · rw [hnw, if_pos (Or.inr h10)] at hxR
                subst hxR
                have h10i : (10 : Int) < ((word.length + 1 : Nat) : Int) := by omega
                go_wp2_with fail
                refine (unhide HCN).mono ?_
                rintro e w7 ⟨rfl, pos, rfl⟩
                have HU := hide (give_up (w6.iter ⟨(encW (word ++ [r])).toArray⟩ pos))
                go_wp2_with fail
                refine (unhide HU).mono ?_
                rintro e w7 ⟨rfl, rfl⟩
                exact ⟨rfl, gnone (unhide HXS).2.2.2.2 (gnone (unhide HW).2.2 (gnone (unhide Hg6) (grownBy_none_alloc _ _))), rfl⟩
              · have hxR' := hxR
                rw [hnw, if_neg (by intro h; rcases h with h | h; cases h; exact h10 h)] at hxR'
                have h10i : ¬ (10 : Int) < ((word.length + 1 : Nat) : Int) := by omega
                have HXX := hide hxR'
                clear hxR hxR'
                go_wp2_with fail
                refine (unhide HCN).mono ?_
                rintro e w7 ⟨rfl, pos, hw7⟩
                have hg67 : w6.grownBy w7 none := by rw [hw7]; exact grownBy_none_alloc _ _
                clear hw7
                have hgr7 : wr.grownBy w7 none := gnone (gnone (unhide HW).2.2 (unhide Hg6)) hg67
                obtain ⟨yG, yA, yS, yGd, yg⟩ := unhide HXS
                have hA7 : Arr 0 w7 (.slice vad A2.length vn) A2 := ((unhide HW).2.1.later (unhide Hg6)).later hg67
                have HI := ih b2 (.slice vad A2.length vn) A2 (word ++ [r]) Si w7 (hR (b2, A2) (List.mem_of_getElem? hgc)).1 (hR (b2, A2) (List.mem_of_getElem? hgc)).2 (yG.later hgr7) hA7 (yS.kept hgr7 (by simp)) yGd (hT.set (unhide HSS) (gnone yg hgr7)) (by rw [List.length_append, List.length_singleton]; omega) (by rw [List.length_append, List.length_singleton]; omega) hrl
                have x0'' := hg67.cell x0' (by simp)
                have x1'' := hg67.cell x1' (by simp)
                have hS7 := yS.kept hgr7 (by simp)
                have H7 : Hid (IsGraph 0 w7 gv g ∧ Arr 0 w7 (.slice (some ⟨ga, 0, none⟩) A.length cap) A ∧ IsSet w7 mb Si ∧ w.grownBy w7 (some mb)) := ⟨yG.later hgr7, yA.later hgr7, hS7, gnone yg hgr7⟩
                clear yG yA yS yGd yg hA7 hgr7 hg67 hS7 x0 x1 x0' x1'
                cases hrec : tryP comeE g k (b2, A2) (word ++ [r]) Si with
                | none =>
                  rw [hrec] at HI HXX
                  have HI := hide HI
                  obtain rfl : R = none := unhide HXX
                  go_wp2_with fail
                  refine (unhide HI).mono ?_
                  rintro e w8 ⟨hg8, rfl⟩
                  exact ⟨rfl, gtrans (unhide H7).2.2.2 hg8, rfl⟩
                | some S2 =>
                  rw [hrec] at HI HXX
                  have HI := hide HI
                  go_wp2_with fail
                  refine (unhide HI).mono ?_
                  rintro e w8 ⟨hg8, rfl, hS8, hGd8⟩
                  have H8 : Hid (IsGraph 0 w8 gv g ∧ Arr 0 w8 (.slice (some ⟨ga, 0, none⟩) A.length cap) A ∧ IsSet w8 mb S2 ∧ Good S2 ∧ w.grownBy w8 (some mb) ∧ goA g k word (A.drop (i + 1)) S2 = R) :=
                    ⟨(unhide H7).1.set (unhide H7).2.2.1 hg8, (unhide H7).2.1.set (unhide H7).2.2.1 hg8, hS8, hGd8, gtrans (unhide H7).2.2.2 hg8, (unhide HXX).symm⟩
                  clear hg8 hS8 hGd8
                  go_wp2_with fail
                  go_roundw
                  case rel => exact ⟨i + 1, S2, by omega, by go_num, H8⟩
                  case measure => simp [intOf]; omega
      · obtain rfl : i = A.length := by omega
        rw [List.drop_length] at xR
        have hR2 : some Si = R := xR
        subst hR2
        go_wp2_with fail
        go_end0
        exact ⟨xg, rfl, xS, xGd⟩

theorem try_said (gv : Value) (g : List St) (mb : Nat) (hR : ∀ s ∈ g, (∀ a ∈ s.2, RuneOk a.1) ∧ s.2.length ≤ 20000) : ∀ k, TrySaid gv g mb k
  | 0 => fun b va A word S w _ _ _ _ _ _ _ hk hw => by omega
  | k + 1 => try_step gv g mb k hR (try_said gv g mb hR k)

end Go.Proofs.YtdfnngehhiociaaGreatDoor

namespace Go.Proofs.YtdfnngehhiociaaGreatDoor
open Go.RowKit
open Go.Proofs (encStr)

/-- How the gathering of the words ends. -/
def WordsPost (w : World) (r : Option (List Bs)) (e : Ending) (w' : World) : Prop := w.grownBy w' none ∧ match r with
  | none => e = .panicked Up
  | some S => ∃ b, e = .returned (.map (some b)) ∧ IsSet w' b S ∧ Good S

set_option maxHeartbeats 400000 in
set_option maxRecDepth 100000 in
theorem words37_any (v : Value) (g : List St) (w : World) (hG : IsGraph 0 w v g) (hT : Tabs w) (hR : ∀ s ∈ g, (∀ a ∈ s.2, RuneOk a.1) ∧ s.2.length ≤ 20000) :
    Calls Tryz.prog 37 #[v] w (WordsPost w (wordsP comeE g)) := by
  have hmm := @run_makeMap Tryz.prog
  have ga := grownBy_none_alloc w (.map #[] 0)
  have hS0 := IsSet.made w
  unfold wordsP
  cases hg0 : g[0]? with
  | none =>
    have hl : g.length ≤ 0 := List.getElem?_eq_none_iff.1 hg0
    have HA := hide (at_fail v g 0 (w.alloc (.map #[] 0)) (hG.later ga) hl)
    go_enter Tryz.func37, Tryz.ntmps37
    go_wp2_with fail
    refine (unhide HA).mono ?_
    rintro e w1 ⟨rfl, hg1⟩
    exact ⟨rfl, gnone ga hg1, rfl⟩
  | some st =>
    have hl : 0 < g.length := (List.getElem?_eq_some_iff.1 hg0).1
    have ha := at_ok v g 0 (w.alloc (.map #[] 0)) (hG.later ga) hl
    rw [show g.getD 0 (false, []) = st from by simp [List.getD, hg0]] at ha
    have HA := hide ha
    obtain ⟨b, A⟩ := st
    have hst := hR _ (List.mem_of_getElem? hg0)
    have HTS := hide (try_said v g w.heap.size hR 11)
    have HG := hide hG
    have HS0 := hide hS0
    have HT := hide hT
    have Hga := hide ga
    clear ha hG hS0 hT ga
    simp only at HA
    show Calls _ _ _ _ (WordsPost w (tryP comeE g 11 (b, A) [] []))
    generalize hTr : tryP comeE g 11 (b, A) [] [] = R
    have HTr := hide hTr
    clear hTr
    go_enter Tryz.func37, Tryz.ntmps37
    go_wp2_with fail
    refine (unhide HA).mono ?_
    rintro e w1 ⟨va, rfl, hA1, hg1⟩
    have hgw1 := gnone (unhide Hga) hg1
    have HTR := hide (unhide HTS b va A [] [] w1 hst.1 hst.2 ((unhide HG).later hgw1) hA1 ((unhide HS0).kept hg1 (by simp)) good_nil ((unhide HT).none hgw1) rfl (by simp) (by simp))
    have Hgw1 := hide hgw1
    clear hg1 hA1 hgw1
    rw [unhide HTr] at HTR
    cases R with
    | none =>
      go_wp2_with fail
      refine (unhide HTR).mono ?_
      rintro e w2 ⟨hg2, rfl⟩
      exact ⟨rfl, gnew (unhide Hgw1) hg2 (fun j e => by cases e; exact Nat.le_refl _), rfl⟩
    | some S =>
      go_wp2_with fail
      refine (unhide HTR).mono ?_
      rintro e w2 ⟨hg2, rfl, hS2, hGd2⟩
      have HS2 := hide hS2
      have Hg2 := hide hg2
      clear hS2 hg2
      go_wp2_with fail
      go_ret
      exact ⟨gnew (unhide Hgw1) (unhide Hg2) (fun j e => by cases e; exact Nat.le_refl _), _, rfl, unhide HS2, hGd2⟩

end Go.Proofs.YtdfnngehhiociaaGreatDoor

namespace Go.Proofs.YtdfnngehhiociaaGreatDoor
open Go.RowKit
open Go.Proofs (encStr)

set_option maxRecDepth 100000 in
theorem catch_up (p q : Addr) (v0 v1 : Value) (w : World) (hc : w.cell? p = some v0) (hz : w.frozen? p = false) (hd : (w.setCell p (.pointer none)).cell? q = some v1) (hy : (w.setCell p (.pointer none)).frozen? q = false) :
    CallsD Tryz.prog 35 #[.pointer (some p), .pointer (some q)] (.panicking Up) w fun e u' w' =>
      e = .returned (.tuple #[]) ∧ u' = .panicking [{ v := .iface 28 (.int .i64 7), recovered := true }] ∧ w' = (w.setCell p (.pointer none)).setCell q (.int .i64 7) := by
  refine callsD_of_wpS Tryz.func35 rfl fun c₀ cs hu => ?_
  apply wpS_seq
  apply wpS_region
  simp [wpOpsS, go_sem, recoverD, hu, Up, Tryz.ntmps35, Exit.thenS]
  refine wpS_cond (t := true) (by simp [Act.eval, Array.replicate]) ?_
  simp only [if_true]
  apply wpS_region
  simp [wpOpsS, go_sem, hc, hz, hd, hy, bodyPostS, results, Tryz.results35]

set_option maxRecDepth 100000 in
theorem catch_idle (p q : Addr) (w : World) :
    CallsD Tryz.prog 35 #[.pointer (some p), .pointer (some q)] .returning w fun e u' w' => e = .returned (.tuple #[]) ∧ u' = .returning ∧ w' = w := by
  refine callsD_of_wpS Tryz.func35 rfl fun c₀ cs hu => ?_
  apply wpS_seq
  apply wpS_region
  simp [wpOpsS, go_sem, recoverD, hu, Tryz.ntmps35, Exit.thenS]
  refine wpS_cond (t := false) (by simp [Act.eval, Array.replicate]) ?_
  simp only [Bool.false_eq_true, if_false]
  refine wpS_of_wp (wp_skip ?_)
  cases c₀
  simp_all [bodyPostS, results, Tryz.results35]

/-- What a text is read as. -/
def decodes (l : Bs) : Option (List Bs) := if 20000 < l.length then none else (readAll 0 (rd0 l)).bind fun q => (wordsP comeE q.states).bind fun S => if textT (graphR (wordsR S)) = l then some S else none

/-- How Decode ends. -/
def DecPost (w : World) (r : Option (List Bs)) (e : Ending) (w' : World) : Prop := w.grownBy w' none ∧ match r with
  | none => ∃ c : Int, e = .returned (.tuple #[.pointer none, .int .i64 c]) ∧ c ≠ 0
  | some S => ∃ p, e = .returned (.tuple #[.pointer (some ⟨p, 0, none⟩), .int .i64 0]) ∧ IsLex w' p S

set_option maxHeartbeats 400000 in
set_option maxRecDepth 100000 in
theorem decode_long (l : Bs) (w : World) (hl : 20000 < l.length) : Calls Tryz.prog 20 #[encStr l] w (DecPost w none) := by
  have hli : (20000 : Int) < (l.length : Int) := by omega
  go_enter_defers Tryz.func20, Tryz.ntmps20
  go_wp2_with fail
  simp [bodyPostD, Leaves, results, Tryz.results20, go_sem]
  exact ⟨gnone (grownBy_none_alloc _ _) (grownBy_none_alloc _ _), 1, rfl, by decide⟩

/-- The two results' variables. -/
def Vars (w w1 : World) (v : Value) : Prop := w1.heap[w.heap.size]? = some (.cells #[v] 23 (0, 0)) ∧ w1.heap[w.heap.size + 1]? = some (.cells #[.int .i64 0] 28 (0, 0)) ∧ w.grownBy w1 none

theorem Vars.later {w w1 w2 : World} {v : Value} (h : Vars w w1 v) (hg : w1.grownBy w2 none) : Vars w w2 v :=
  ⟨(hg.block _ (Array.getElem?_eq_some_iff.1 h.1).1 (by simp)).trans h.1, (hg.block _ (Array.getElem?_eq_some_iff.1 h.2.1).1 (by simp)).trans h.2.1, gnone h.2.2 hg⟩

theorem Vars.set {w w1 : World} {v : Value} (h : Vars w w1 v) (u : Value) : Vars w (w1.setCell ⟨w.heap.size, 0, none⟩ u) u := by
  have k1 := grown_set w1 w.heap.size 0 u
  exact ⟨by simp [World.setCell, Array.getElem?_modify, h.1], (k1.block _ (Array.getElem?_eq_some_iff.1 h.2.1).1 (by simp)).trans h.2.1, gnew h.2.2 k1 (fun j e => by cases e; exact Nat.le_refl _)⟩

theorem Vars.made (w : World) : Vars w ((w.alloc (.cells #[.pointer none] 23)).alloc (.cells #[.int .i64 0] 28)) (.pointer none) := by
  have e1 := World.alloc_heap_new w (.cells #[.pointer none] 23)
  have e2 := World.alloc_heap_new (w.alloc (.cells #[.pointer none] 23)) (.cells #[.int .i64 0] 28)
  rw [World.size_alloc] at e2
  have g2 := grownBy_none_alloc (w.alloc (.cells #[.pointer none] 23)) (.cells #[.int .i64 0] 28)
  exact ⟨(g2.block _ (Array.getElem?_eq_some_iff.1 e1).1 (by simp)).trans e1, e2, gnone (grownBy_none_alloc _ _) g2⟩

/-- What the second variable's store leaves. -/
theorem Vars.done {w w1 : World} {v : Value} (h : Vars w w1 v) (c : Int) :
    w1.cell? ⟨w.heap.size, 0, none⟩ = some v ∧ w1.frozen? ⟨w.heap.size, 0, none⟩ = false ∧ w1.cell? ⟨w.heap.size + 1, 0, none⟩ = some (.int .i64 0) ∧ w1.frozen? ⟨w.heap.size + 1, 0, none⟩ = false ∧
    (w1.setCell ⟨w.heap.size + 1, 0, none⟩ (.int .i64 c)).cell? ⟨w.heap.size, 0, none⟩ = some v ∧ (w1.setCell ⟨w.heap.size + 1, 0, none⟩ (.int .i64 c)).cell? ⟨w.heap.size + 1, 0, none⟩ = some (.int .i64 c) ∧ w.grownBy (w1.setCell ⟨w.heap.size + 1, 0, none⟩ (.int .i64 c)) none := by
  obtain ⟨b0, b1, hg⟩ := h
  have k2 := grown_set w1 (w.heap.size + 1) 0 (.int .i64 c)
  have b0'' := (k2.block _ (Array.getElem?_eq_some_iff.1 b0).1 (by simp)).trans b0
  have b1'' : (w1.setCell ⟨w.heap.size + 1, 0, none⟩ (.int .i64 c)).heap[w.heap.size + 1]? = some (.cells #[.int .i64 c] 28 (0, 0)) := by simp [World.setCell, Array.getElem?_modify, b1]
  refine ⟨by rw [cell_of_row _ _ _ _ _ _ b0]; rfl, by simp [World.frozen?, b0], by rw [cell_of_row _ _ _ _ _ _ b1]; rfl, by simp [World.frozen?, b1], by rw [cell_of_row _ _ _ _ _ _ b0'']; rfl, by rw [cell_of_row _ _ _ _ _ _ b1'']; rfl, gnew hg k2 (fun j e => by cases e; omega)⟩

theorem IsLex.put {w : World} {p x : Nat} {S : List Bs} {v : Value} (h : IsLex w p S) (hx : w.cell? ⟨x, 0, none⟩ = some v) (hv : ∀ b, v ≠ .map b) (u : Value) : IsLex (w.setCell ⟨x, 0, none⟩ u) p S := by
  obtain ⟨b, h1, h2, h3⟩ := h
  have k := grown_set w x 0 u
  refine ⟨b, k.cell h1 (fun e => ?_), h2.kept k (fun e => h2.ne hx (Option.some.inj e).symm), h3⟩
  have e' : p = x := Option.some.inj e
  subst e'
  rw [h1] at hx
  exact hv _ (Option.some.inj hx).symm

set_option maxHeartbeats 600000 in
set_option maxRecDepth 100000 in
theorem decode_short (l : Bs) (w : World) (hl : l.length ≤ 20000) (hT : Tabs w) (hP : Pow w) (hE : Errs w) (hp5 : 5 < w.heap.size) : Calls Tryz.prog 20 #[encStr l] w (DecPost w (decodes l)) := by
  have hli : ¬ (20000 : Int) < (l.length : Int) := by omega
  have hmf : ∀ (fn : Fn) (first cap : Array Value) (w : World), (Instr.makeFunc fn first cap).run Tryz.prog w = .ok (.func fn first cap) w := fun _ _ _ _ => rfl
  obtain ⟨W0, hW0⟩ : ∃ W0, W0 = (w.alloc (.cells #[.pointer none] 23)).alloc (.cells #[.int .i64 0] 28) := ⟨_, rfl⟩
  have hg0 : w.grownBy W0 none := by rw [hW0]; exact gnone (grownBy_none_alloc _ _) (grownBy_none_alloc _ _)
  have hV0 : Vars w W0 (.pointer none) := by rw [hW0]; exact Vars.made w
  have HR := hide (readGraph_any l W0 hl (hT.none hg0) (hE.later hg0) (Nat.lt_of_lt_of_le hp5 hg0.size))
  have hdec : decodes l = (readAll 0 (rd0 l)).bind fun q => (wordsP comeE q.states).bind fun S => if textT (graphR (wordsR S)) = l then some S else none := by
    unfold decodes
    rw [if_neg (by omega)]
  rw [hdec]
  clear hdec
  cases hra : readAll 0 (rd0 l) with
  | none =>
    rw [hra] at HR
    go_enter_defers Tryz.func20, Tryz.ntmps20
    go_wp2_with fail
    rw [← hW0]
    refine (unhide HR).mono ?_
    rintro e w1 ⟨hg1, rfl⟩
    have hv := hV0.later hg1
    obtain ⟨c1, c2, _⟩ := hv.done 7
    obtain ⟨_, _, c3, c4, c5, c6, c7⟩ := (hv.set (.pointer none)).done 7
    refine leaves_cons (f := 35) (args := #[.pointer (some ⟨w.heap.size, 0, none⟩), .pointer (some ⟨w.heap.size + 1, 0, none⟩)]) (by simp) (by simp [go_sem]) ?_
    refine (catch_up ⟨w.heap.size, 0, none⟩ ⟨w.heap.size + 1, 0, none⟩ _ _ w1 c1 c2 c3 c4).mono ?_
    rintro e u' w2 ⟨rfl, rfl, rfl⟩
    simp [Leaves, settle, results, Tryz.results20, go_sem, c5, c6]
    exact ⟨c7, 7, rfl, by decide⟩
  | some q =>
    rw [hra] at HR
    show Calls _ _ _ _ (DecPost w ((wordsP comeE q.states).bind fun S => if textT (graphR (wordsR S)) = l then some S else none))
    generalize hwp : wordsP comeE q.states = RW
    have HWP := hide hwp
    have HV0 := hide hV0
    have HT := hide hT
    have HPW := hide hP
    clear hwp hV0 hT hP hE hra
    go_enter_defers Tryz.func20, Tryz.ntmps20
    go_wp2_with fail
    rw [← hW0]
    clear hW0
    refine (unhide HR).mono ?_
    rintro e w1 ⟨hg1, v, rfl, hG1, hI1⟩
    have hv1 := (unhide HV0).later hg1
    have hw37 := words37_any v q.states w1 hG1 ((unhide HT).none hv1.2.2) (fun s hs => ⟨hI1.runes s hs, by have := hI1.fewer s hs; omega⟩)
    rw [unhide HWP] at hw37
    have HW37 := hide hw37
    have HV1 := hide hv1
    clear hw37 hv1 hg1 hG1 hI1 HR
    go_wp2_with fail
    refine (unhide HW37).mono ?_
    cases RW with
    | none =>
      rintro e w2 ⟨hg2, rfl⟩
      have hv := (unhide HV1).later hg2
      obtain ⟨c1, c2, _⟩ := hv.done 7
      obtain ⟨_, _, c3, c4, c5, c6, c7⟩ := (hv.set (.pointer none)).done 7
      refine leaves_cons (f := 35) (args := #[.pointer (some ⟨w.heap.size, 0, none⟩), .pointer (some ⟨w.heap.size + 1, 0, none⟩)]) (by simp) (by simp [go_sem]) ?_
      refine (catch_up ⟨w.heap.size, 0, none⟩ ⟨w.heap.size + 1, 0, none⟩ _ _ w2 c1 c2 c3 c4).mono ?_
      rintro e u' w2 ⟨rfl, rfl, rfl⟩
      simp [Leaves, settle, results, Tryz.results20, go_sem, c5, c6]
      exact ⟨c7, 7, rfl, by decide⟩
    | some S =>
      rintro e w2 ⟨hg2, b, rfl, hS2, hGd⟩
      have hv2 := ((unhide HV1).later hg2).later (grownBy_none_alloc w2 (.cells #[.map (some b)] 55))
      obtain ⟨a1, a2, _⟩ := hv2.done 0
      have hS2' := hS2.kept (grownBy_none_alloc w2 (.cells #[.map (some b)] 55)) (by simp)
      have hbs : some b ≠ some w.heap.size := fun e => hS2'.ne a1 (Option.some.inj e).symm
      have k1 := grown_set (w2.alloc (.cells #[.map (some b)] 55)) w.heap.size 0 (.pointer (some ⟨w2.heap.size, 0, none⟩))
      have hv3 := hv2.set (.pointer (some ⟨w2.heap.size, 0, none⟩))
      have hL3 : IsLex ((w2.alloc (.cells #[.map (some b)] 55)).setCell ⟨w.heap.size, 0, none⟩ (.pointer (some ⟨w2.heap.size, 0, none⟩))) w2.heap.size S := by
        have hws : w.heap.size < w2.heap.size := (Array.getElem?_eq_some_iff.1 ((unhide HV1).later hg2).1).1
        refine ⟨b, k1.cell ?_ (by simp; omega), hS2'.kept k1 hbs, hGd⟩
        rw [cell_of_row _ _ _ _ _ _ (World.alloc_heap_new w2 _)]
        rfl
      obtain ⟨d1, d2, _⟩ := hv3.done 0
      have HEN := hide (encode_any w2.heap.size S _ hL3 ((unhide HT).none hv3.2.2) ((unhide HPW).later hv3.2.2))
      have HV3 := hide hv3
      have HL3 := hide hL3
      clear hv2 hv3 hS2 hS2' hbs k1 hL3 hg2 hGd
      go_wp2_with fail
      refine (unhide HEN).mono ?_
      rintro e w4 ⟨rfl, hg4⟩
      have hv4 := (unhide HV3).later hg4
      obtain ⟨e1, e2, e3, e4, _⟩ := hv4.done 0
      have HL4 := hide ((unhide HL3).kept hg4)
      have HV4 := hide hv4
      clear hv4 hg4 HL3 HV3 HEN
      by_cases hTl : textT (graphR (wordsR S)) = l
      · rw [hTl]
        have hv5 := (unhide HV4).set (.pointer (some ⟨w2.heap.size, 0, none⟩))
        obtain ⟨f1, f2, f3, f4, f5, f6, f7⟩ := hv5.done 0
        have HL5 := hide (((unhide HL4).put e1 (fun b e => by cases e) (.pointer (some ⟨w2.heap.size, 0, none⟩))).put f3 (fun b e => by cases e) (.int .i64 0))
        have HTL := hide hTl
        clear hv5 hTl
        go_wp2_with fail
        refine leaves_cons (f := 35) (args := #[.pointer (some ⟨w.heap.size, 0, none⟩), .pointer (some ⟨w.heap.size + 1, 0, none⟩)]) (by simp) (by simp [go_sem]) ?_
        refine (catch_idle ⟨w.heap.size, 0, none⟩ ⟨w.heap.size + 1, 0, none⟩ _).mono ?_
        rintro e u' w6 ⟨rfl, rfl, rfl⟩
        show Leaves _ _ _ (DecPost w (if textT (graphR (wordsR S)) = l then some S else none)) [] _ _
        rw [if_pos (unhide HTL)]
        simp [Leaves, settle, results, Tryz.results20, go_sem, f5, f6]
        exact ⟨f7, _, rfl, unhide HL5⟩
      · have hne : (textT (graphR (wordsR S)) == l) = false := by simpa using hTl
        have hif : (if textT (graphR (wordsR S)) = l then some S else none) = none := if_neg hTl
        have HIF := hide hif
        clear hTl hif
        have HU := hide (give_up w4)
        obtain ⟨c1, c2, _⟩ := (unhide HV4).done 7
        obtain ⟨_, _, c3, c4, c5, c6, c7⟩ := ((unhide HV4).set (.pointer none)).done 7
        have HC5 := hide c5
        have HC6 := hide c6
        have HC3 := hide c3
        have HC4 := hide c4
        clear c3 c4 c5 c6
        go_wp2_with fail
        refine (unhide HU).mono ?_
        rintro e w5 ⟨rfl, rfl⟩
        refine leaves_cons (f := 35) (args := #[.pointer (some ⟨w.heap.size, 0, none⟩), .pointer (some ⟨w.heap.size + 1, 0, none⟩)]) (by simp) (by simp [go_sem]) ?_
        refine (catch_up ⟨w.heap.size, 0, none⟩ ⟨w.heap.size + 1, 0, none⟩ _ _ w5 c1 c2 (unhide HC3) (unhide HC4)).mono ?_
        rintro e u' w6 ⟨rfl, rfl, rfl⟩
        show Leaves _ _ _ (DecPost w (if textT (graphR (wordsR S)) = l then some S else none)) [] _ _
        rw [unhide HIF]
        simp [Leaves, settle, results, Tryz.results20, go_sem, unhide HC5, unhide HC6]
        exact ⟨c7, 7, rfl, by decide⟩

theorem decode_any (l : Bs) (w : World) (hT : Tabs w) (hP : Pow w) (hE : Errs w) (hp5 : 5 < w.heap.size) : Calls Tryz.prog 20 #[encStr l] w (DecPost w (decodes l)) := by
  by_cases hl : 20000 < l.length
  · have : decodes l = none := by unfold decodes; rw [if_pos hl]
    rw [this]
    exact decode_long l w hl
  · exact decode_short l w (by omega) hT hP hE hp5

end Go.Proofs.YtdfnngehhiociaaGreatDoor
