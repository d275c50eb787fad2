import Derived.Test.YtdfnngehhiociaaGreatDoorState
namespace Go.Proofs.YtdfnngehhiociaaGreatDoor
open Go.RowKit Go.Maps Go.WideMaps
open Go.Proofs (encStr)

/-! The graph's states in memory. -/

def cellsG (g : List St) (vs : List Value) : List Value := (g.zip vs).flatMap fun p => [.bool p.1.1, p.2]

theorem cellsG_snoc {g : List St} {vs : List Value} (h : vs.length = g.length) (s : St) (v : Value) : cellsG (g ++ [s]) (vs ++ [v]) = cellsG g vs ++ [.bool s.1, v] := by
  unfold cellsG
  rw [List.zip_append h.symm, List.flatMap_append]
  simp

structure IsGraph (base : Nat) (w : World) (v : Value) (g : List St) : Prop where
  row : ∃ vs, vs.length = g.length ∧ w.ownsRow base 92 2 v g.length (cellsG g vs) ∧ ∀ i, i < g.length → ∃ u, vs[i]? = some u ∧ Arr 0 w u (g.getD i (false, [])).2

theorem Arr.fr {mb base : Nat} {w w' : World} {u : Value} {A : List (Int × Nat)} (h : Arr base w u A) (hf : Fr mb w w') (hm : ∃ es clock, w.heap[mb]? = some (.map es clock)) : Arr base w' u A :=
  hf.row h (by decide) (by decide) fun c f e => by
    obtain ⟨es, clock, hb⟩ := hm
    rw [hb] at e; cases e

theorem IsGraph.fr {mb base : Nat} {w w' : World} {v : Value} {g : List St} (h : IsGraph base w v g) (hf : Fr mb w w') (hm : ∃ es clock, w.heap[mb]? = some (.map es clock)) : IsGraph base w' v g := by
  obtain ⟨vs, h1, h2, h3⟩ := h.row
  refine ⟨vs, h1, hf.row h2 (by decide) (by decide) fun c f e => ?_, fun i hi => ?_⟩
  · obtain ⟨es, clock, hb⟩ := hm
    rw [hb] at e; cases e
  · obtain ⟨u, hu, hA⟩ := h3 i hi
    exact ⟨u, hu, hA.fr hf hm⟩

theorem IsGraph.later {base : Nat} {w w' : World} {v : Value} {g : List St} (h : IsGraph base w v g) (hg : w.grownBy w' none) : IsGraph base w' v g := by
  obtain ⟨vs, h1, h2, h3⟩ := h.row
  refine ⟨vs, h1, row_off h2 hg (by cases v.ownBlock <;> simp), fun i hi => ?_⟩
  obtain ⟨u, hu, hA⟩ := h3 i hi
  exact ⟨u, hu, row_off hA hg (by cases u.ownBlock <;> simp)⟩

theorem graph_next {base : Nat} {w5 w6 : World} {v v' : Value} {g : List St} {vs : List Value} {b : Bool} {va : Value} {A : List (Int × Nat)} (h1 : vs.length = g.length)
    (h2 : w5.ownsRow base 92 2 v g.length (cellsG g vs)) (h3 : ∀ i, i < g.length → ∃ u, vs[i]? = some u ∧ Arr 0 w5 u (g.getD i (false, [])).2) (hA : Arr 0 w5 va A) (hg : w5.grownBy w6 v.ownBlock)
    (hown : w6.ownsRow base 92 2 v' (g.length + 1) (cellsG g vs ++ [.bool b, va])) : IsGraph base w6 v' (g ++ [(b, A)]) := by
  have hne : ∀ (u : Value) (B : List (Int × Nat)), Arr 0 w5 u B → Arr 0 w6 u B := by
    intro u B hB
    refine row_off hB hg ?_
    cases hu : u.ownBlock with
    | none => exact Or.inl rfl
    | some q =>
      refine Or.inr fun e => ?_
      obtain ⟨_, c, hc⟩ := row_block hB hu
      obtain ⟨_, c', hc'⟩ := row_block h2 e.symm
      rw [hc] at hc'
      cases hc'
  refine ⟨vs ++ [va], by simp [h1], ?_, fun i hi => ?_⟩
  · rw [cellsG_snoc h1, List.length_append, List.length_singleton]
    exact hown
  · rw [List.length_append, List.length_singleton] at hi
    by_cases hlt : i < g.length
    · obtain ⟨u, hu, hB⟩ := h3 i hlt
      refine ⟨u, by rw [List.getElem?_append_left (by omega)]; exact hu, ?_⟩
      rw [show (g ++ [(b, A)]).getD i (false, []) = g.getD i (false, []) from by simp [List.getD, List.getElem?_append_left hlt]]
      exact hne _ _ hB
    · obtain rfl : i = g.length := by omega
      refine ⟨va, by rw [← h1]; simp, ?_⟩
      rw [show (g ++ [(b, A)]).getD g.length (false, []) = (b, A) from by simp [List.getD]]
      exact hne _ _ hA

/-- What the lists are that come up. -/
def Sound (V : List Rs) : Prop := Fine V ∧ V.length ≤ 40 ∧ ∀ r ∈ V, r.length ≤ 10

theorem sound_iter {W0 : List Rs} (h : Sound W0) (n : Nat) : ∀ V ∈ (iterR W0 n).2, Sound V :=
  (GInv.iter W0 n).all Sound h fun V r hV _ => ⟨behind_fine hV.1 r, Nat.le_trans (behind_le V r) hV.2.1, behind_ten hV.2.2 r⟩

theorem weight_le : ∀ {W : List Rs} {k : Nat}, (∀ r ∈ W, r.length ≤ k) → weight W ≤ W.length * k
  | [], _, _ => by simp [weight]
  | w :: W, k, h => by
    have h1 := h w (List.mem_cons_self ..)
    have h2 := weight_le (W := W) (k := k) fun r hr => h r (List.mem_cons_of_mem _ hr)
    rw [weight_cons, List.length_cons, Nat.add_mul]
    omega

theorem sound_weight {W : List Rs} (h : Sound W) : weight W ≤ 400 := by
  have := weight_le h.2.2
  have := h.2.1
  omega

theorem lists_len {W0 : List Rs} (h : Sound W0) (n : Nat) : (iterR W0 n).2.length ≤ 401 := by
  have h1 := (GInv.iter W0 n).states
  have h2 := (GInv.iter W0 n).arrows
  have := sound_weight h
  omega

theorem iter_succ {W0 : List Rs} {n : Nat} (h1 : (iterR W0 n).1.length = n) (h2 : n < (iterR W0 n).2.length) :
    iterR W0 (n + 1) = ((iterR W0 n).1 ++ [stateR ((iterR W0 n).2.getD n []) (iterR W0 n).2], meetsR ((iterR W0 n).2.getD n []) (firsts ((iterR W0 n).2.getD n [])) (iterR W0 n).2) := by
  show stepR (iterR W0 n) = _
  unfold stepR
  rw [h1, List.getElem?_eq_getElem h2]
  simp [List.getD, h2]

theorem Tabs.below {w w' : World} (h : Tabs w) (hb : Below w.heap.size w w') : Tabs w' := by
  obtain ⟨h1, h2⟩ := h
  have l0 := lt_of_cell (h1 0 (by omega))
  have l1 := lt_of_cell (h2 0 (by omega)).1
  exact ⟨fun c hc => (hb.cell l0).trans (h1 c hc), fun i hi => ⟨(hb.cell l1).trans (h2 i hi).1, (hb.cell l1).trans (h2 i hi).2⟩⟩

theorem info92 : (Tryz.prog.info? 92).map (fun i => (i.zero, i.size, i.bytes)) = some (some (.agg #[.bool false, .slice none 0 0]), 2, 32) := by kernel_rfl

theorem numb_made (w : World) : Numb w.heap.size ((w.alloc (.map #[] 0)).alloc (.cells #[.map (some w.heap.size), .slice none 0 0] 88)) (w.heap.size + 1) w.heap.size [] := by
  refine ⟨Nat.le_succ _, Nat.le_refl _, ?_, .slice none 0 0, [], ?_, World.ownsRow_nil _ _ _ _, fun i hi => by simp at hi⟩
  · exact (IsFound.made w).kept (grownBy_none_alloc _ _) (by simp)
  · have := World.alloc_heap_new (w.alloc (.map #[] 0)) (.cells #[.map (some w.heap.size), .slice none 0 0] 88)
    rw [World.size_alloc] at this
    exact this

set_option maxHeartbeats 1000000 in
set_option maxRecDepth 100000 in
theorem graph_any (b : Nat) (L : List Bs) (W0 : List Rs) (w : World) (hS : IsSet w b L) (hT : Tabs w) (hW : L.mergeSort leB = W0.map encW) (hQ : Sound W0) :
    Calls Tryz.prog 33 #[.map (some b)] w fun e w' => ∃ v, e = .returned v ∧ IsGraph w.heap.size w' v (graphR W0) ∧ Below w.heap.size w w' := by
  have hmm := @run_makeMap Tryz.prog
  obtain ⟨A, hA⟩ : ∃ A, A = (w.alloc (.map #[] 0)).alloc (.cells #[.map (some w.heap.size), .slice none 0 0] 88) := ⟨_, rfl⟩
  have hgA : w.grownBy A none := by rw [hA]; exact gnone (grownBy_none_alloc _ _) (grownBy_none_alloc _ _)
  have hNA : Numb w.heap.size A (w.heap.size + 1) w.heap.size [] := by rw [hA]; exact numb_made w
  have hLl : L.length = W0.length := by
    have := congrArg List.length hW
    rw [List.length_mergeSort, List.length_map] at this
    exact this
  have h40 := hQ.2.1
  have HR := hide (rising_any b L A (hS.kept hgA (by simp)) (by omega))
  have HNA := hide hNA
  have HgA := hide hgA
  have HT := hide hT
  clear hNA hgA hS hT
  go_enter Tryz.func33, Tryz.ntmps33
  go_wp2_with fail
  rw [← hA]
  clear hA
  refine (unhide HR).mono ?_
  rintro e w1 ⟨v0, rfl, hrow, -, hg1⟩
  have hStr : StrR w1 v0 W0 := by
    have := row_base hrow (Nat.zero_le _)
    rw [hW, hLl, List.map_map] at this
    exact this
  have hw1 := gnone (unhide HgA) hg1
  have HN57 := hide (number_any w.heap.size (w.heap.size + 1) w.heap.size [] v0 W0 w1 ((unhide HNA).later hg1) hStr (fun V hV => by simp at hV) hQ.1 (by simp) (key_bound hQ.2.1 hQ.2.2) (by omega) hw1.size)
  have Hw1 := hide hw1
  clear hrow hg1 hStr hw1 HR HNA HgA
  go_wp2_with fail
  refine (unhide HN57).mono ?_
  rintro e w2 ⟨rfl, hN2, hF2, hB2⟩
  have H2 : Hid (Numb w.heap.size w2 (w.heap.size + 1) w.heap.size [W0] ∧ Below w.heap.size w w2) := ⟨hN2, (grownBy_below (unhide Hw1)).trans hB2⟩
  clear hN2 hF2 hB2 HN57 Hw1
  go_wp2_with fail
  go_loopw [4, 5] (fun gv i wr => ∃ n : Nat, i = .int .i64 n ∧ (iterR W0 n).1.length = n ∧ Hid (IsGraph w.heap.size wr gv (iterR W0 n).1 ∧ Numb w.heap.size wr (w.heap.size + 1) w.heap.size (iterR W0 n).2 ∧ Below w.heap.size w wr)) (fun _ i _ => todo (iterR W0 (intOf i).toNat))
  case atStart => exact ⟨0, rfl, rfl, ⟨[], rfl, World.ownsRow_nil _ _ _ _, fun i hi => by cases hi⟩, (unhide H2).1, (unhide H2).2⟩
  case round =>
    clear H2
    obtain ⟨n, rfl, hn, HX⟩ := hrel
    obtain ⟨hG, hN, hB⟩ := unhide HX
    have hFl := lists_len hQ n
    have hle := (GInv.iter W0 n).le
    obtain ⟨v, vs, hb, hrow, hvs⟩ := hN.row
    have c1 : wr.cell? ⟨w.heap.size + 1, 1, none⟩ = some v := by rw [cell_of_row _ _ _ _ _ _ hb]; rfl
    obtain ⟨ad, vcap, rfl, had⟩ : ∃ ad cap, v = .slice ad (iterR W0 n).2.length cap ∧ (0 < (iterR W0 n).2.length → ∃ g, ad = some ⟨g, 0, none⟩) := by
      rcases hrow.2 with ⟨rfl, h0⟩ | ⟨g, cap, cur, rfl, _⟩
      · exact ⟨none, 0, by rw [h0], fun h => by omega⟩
      · exact ⟨_, _, rfl, fun _ => ⟨g, rfl⟩⟩
    by_cases hlt : n < (iterR W0 n).2.length
    · obtain ⟨gg, rfl⟩ := had (by omega)
      obtain ⟨u, hu, hStr⟩ := hvs n hlt
      have c2 : wr.cell? ⟨gg, n, none⟩ = some u := by
        rw [World.ownsRow.cellAt hrow n (by omega)]
        simpa using hu
      have hQn := sound_iter hQ n
      have hmem : (iterR W0 n).2.getD n [] ∈ (iterR W0 n).2 := by simp [List.getD, hlt]
      have hmap : ∃ es clock, wr.heap[w.heap.size]? = some (.map es clock) := hN.found.obj
      have HS := hide (state_any w.heap.size (w.heap.size + 1) w.heap.size u (iterR W0 n).2 ((iterR W0 n).2.getD n []) wr hN hStr ((unhide HT).below hB) (fun V hV => (hQn V hV).1) (hQn _ hmem).1 (by omega) (hQn _ hmem).2.1 (hQn _ hmem).2.2 hB.size)
      have hsucc := iter_succ hn hlt
      have HTD : Hid (todo (iterR W0 (n + 1)) < todo (iterR W0 n)) := todo_step (by rw [hn]; exact hlt)
      obtain ⟨gs, hgl, hgrow, hgs⟩ := hG.row
      obtain ⟨i0, hi, hz0, hz1, hz2⟩ := info_parts info92
      generalize (iterR W0 n).2.getD n [] = V at HS hsucc
      have HSC := hide hsucc
      have HB := hide hB
      have HGS := hide hgs
      have HMP := hide hmap
      have HGR := hide hgrow
      have hwrs := hB.size
      clear hStr hQn hmem hsucc hB hgs hG hN hb hrow hvs hu HX hmap hgrow
      go_wp2_with fail
      refine (unhide HS).mono ?_
      rintro e w5 ⟨va, rfl, hA5, hN5, hF5, hB5⟩
      have hs5 := hF5.size
      have hgrow5 : w5.ownsRow w.heap.size 92 2 u4 (iterR W0 n).1.length (cellsG (iterR W0 n).1 gs) := hF5.row (unhide HGR) (by decide) (by decide) (fun c f e => by obtain ⟨es, clock, hb⟩ := unhide HMP; rw [hb] at e; cases e)
      have hone : ∀ x ∈ [Value.bool (decide ([] ∈ V)), va], x.oneCell' = true := by
        intro x hx
        simp at hx
        rcases hx with rfl | rfl
        · rfl
        · rcases hA5.2 with ⟨rfl, _⟩ | ⟨_, _, _, rfl, _⟩ <;> rfl
      have hnew : ∀ j x, [Value.bool (decide ([] ∈ V)), va][j]? = some x → (w5.alloc (.cells #[.bool (decide ([] ∈ V)), va] 92)).cell? ((⟨w5.heap.size, 0, none⟩ : Addr).add j) = some x := by
        intro j x hx
        rw [Addr.add_mid, Nat.zero_add, cell_of_row _ _ _ _ _ (0, 0) (Go.heap_alloc_new w5 _)]
        simpa using hx
      have HNX : Hid (∀ g' cap' w6, w6.ownsRow w.heap.size 92 2 (.slice (some ⟨g', 0, none⟩) ((iterR W0 n).1.length + 1) cap') ((iterR W0 n).1.length + 1) (cellsG (iterR W0 n).1 gs ++ [.bool (decide ([] ∈ V)), va]) → (w5.alloc (.cells #[.bool (decide ([] ∈ V)), va] 92)).grownBy w6 u4.ownBlock →
          IsGraph w.heap.size w6 (.slice (some ⟨g', 0, none⟩) ((iterR W0 n).1.length + 1) cap') (iterR W0 (n + 1)).1 ∧ Numb w.heap.size w6 (w.heap.size + 1) w.heap.size (iterR W0 (n + 1)).2 ∧ Below w.heap.size w w6) := by
        intro g' cap' w6 hown6 hg6
        rw [unhide HSC]
        have ga := grownBy_none_alloc w5 (.cells #[.bool (decide ([] ∈ V)), va] 92)
        have hu4 : ∀ q, u4.ownBlock = some q → w.heap.size ≤ q ∧ ∃ c, (w5.alloc (.cells #[.bool (decide ([] ∈ V)), va] 92)).heap[q]? = some (.cells c 92 (0, 0)) := fun q e => row_block (hgrow5.alloc _) e
        refine ⟨graph_next hgl (hgrow5.alloc _) (fun i hi => ?_) (row_off hA5 ga (by cases va.ownBlock <;> simp)) hg6 hown6, (hN5.later ga).off hg6 (fun q e => ?_), ?_⟩
        · obtain ⟨x, hx, hX⟩ := unhide HGS i hi
          have hX5 : Arr 0 w5 x _ := hX.fr hF5 (unhide HMP)
          exact ⟨x, hx, row_off hX5 ga (by cases x.ownBlock <;> simp)⟩
        · obtain ⟨_, c, hc⟩ := hu4 q e
          exact ⟨_, _, _, hc, by decide, by decide, by decide, by decide⟩
        · have c1 : Below w.heap.size w w5 := (unhide HB).trans hB5
          have c2 : Below w.heap.size w (w5.alloc (.cells #[.bool (decide ([] ∈ V)), va] 92)) := c1.trans ((grownBy_below ga).mono c1.size)
          exact c2.grown hg6 c2.size (fun q e => (hu4 q e).1)
      have HAL := hide (hgrow5.alloc (.cells #[.bool (decide ([] ∈ V)), va] 92))
      have HNW := hide hnew
      have HON := hide hone
      clear hnew hone hgrow5 hA5 hN5 hF5 hB5
      go_wp2_with (first
        | (at_builtin; refine wpList_append_lies _ rfl _ _ 66 rfl w.heap.size 92 i0 _ 2 32 Tryz.underlying66 hi hz0 hz1 hz2 rfl (by decide) _ _ _ rfl (unhide HAL) ⟨w5.heap.size, 0, none⟩ 1 1 [.bool (decide ([] ∈ V)), va] rfl rfl (unhide HNW) (unhide HON) (by omega) (by unfold maxLen; omega) (by omega) (by simp; omega) _ rfl ?_; intro g' cap' w6 hown6 hg6 _ _; have HN6 := hide (unhide HNX g' cap' w6 hown6 hg6); clear hown6 hg6)
        | go_in)
      go_roundw
      case rel => exact ⟨n + 1, by go_num, by rw [unhide HSC]; simp [hn], by rw [hn] at HN6; exact HN6⟩
      case measure =>
        have := unhide HTD
        simpa [intOf] using this
    · have HD := hide (iter_done W0 n (by omega))
      have HG := hide hG
      have HB := hide hB
      clear hG hN hb hrow hvs HX hB
      go_wp2
      go_ret
      refine ⟨_, rfl, ?_, unhide HB⟩
      have := unhide HG
      rw [unhide HD] at this
      exact this

end Go.Proofs.YtdfnngehhiociaaGreatDoor
