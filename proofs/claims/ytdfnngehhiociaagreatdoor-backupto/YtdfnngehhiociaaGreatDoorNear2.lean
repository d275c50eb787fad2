import Derived.Test.YtdfnngehhiociaaGreatDoorNearC
import Derived.Test.YtdfnngehhiociaaGreatDoorPre
namespace Go.Proofs.YtdfnngehhiociaaGreatDoor
open Go.RowKit Go.Maps Go.WideMaps Go.Sort
open Go.Proofs (encStr)

set_option maxHeartbeats 1000000 in
set_option maxRecDepth 100000 in
theorem nearest_row (b most : Nat) (M : List (Bs × Nat)) (w : World) (hM : IsFound w b M) (hl : M.length ≤ 40) (hmost : most ≤ 9223372036854775807) :
    Calls Tryz.prog 31 #[.map (some b), .int .i64 most] w fun e w' => ∃ v, e = .returned v ∧ w'.ownsRow w.heap.size 38 2 v ((sortM M).take most).length (((sortM M).take most).flatMap encM) ∧ w.grownBy w' none := by
  obtain ⟨i0, hi, hz0, hz1, hz2⟩ := info_parts Tryd_info38
  have hblt := hM.lt
  obtain ⟨D, h1, h2, h3, h4, h5⟩ := hM
  go_enter Tryz.func31, Tryz.ntmps31
  go_wp2_with (first | (at_range; refine wpList_range_own _ rfl _ 63 rfl 9 3 law9 Tryz.underlying63 _ b M.length D rfl h1 ?_; intro w0 hrg0 hg0 hs0) | go_in)
  go_frame
  go_loopw [5] (fun v wr => ∃ (left : Lit → Bool) (cnt : Nat) (ms : List (Bs × Nat)), wr.ranges Tryz.prog 9 (plainElem Tryz.prog 3) b w.heap.size M.length D left cnt ∧ Collected D left (ms.map Prod.fst) ∧ (∀ q ∈ ms, q ∈ M) ∧ wr.ownsRow (w.heap.size + 1) 38 2 v ms.length (ms.flatMap encM) ∧ ms.length ≤ 40 ∧ w.grownBy wr none ∧ w.heap.size + 1 ≤ wr.heap.size)
    (fun _ wr => wr.rangeLeft b w.heap.size)
  case atStart => exact ⟨_, _, [], hrg0, Collected.start D, fun q hq => absurd hq (by simp), World.ownsRow_nil _ _ _ _, by simp, hg0, by omega⟩
  case round =>
    obtain ⟨left, cnt, ms, hrg, hC, hsub, hrow, hm40, hgr, hws⟩ := hrel
    go_wp2_with (first
      | (at_next; refine wpList_next_ranges _ rfl _ rfl 9 law9 (plainElem (H := Unit) Tryz.prog 3) encStr (Value.int .i64) invK invI b w.heap.size M.length _ _ _ rfl hrg ?_ ?_)
      | go_in)
    · intro hc0 hl0
      have hperm : ms.Perm M := perm_found h2 hC.1 hsub (fun x hx => (hC.2 x).2 ⟨(h3 x).2 hx, hl0 _⟩)
      have HS := hide (sortM_of_perm hperm)
      clear hperm
      rcases hrow.2 with ⟨rfl, h0⟩ | ⟨g, cap, cur, rfl, hbase, hb, h11, h12, h13, h14⟩
      · obtain rfl : ms = [] := List.length_eq_zero_iff.1 h0
        go_wp2_with (go_at_call 52; refine (sort_nil _ _).mono ?_; rintro e w' ⟨rfl, rfl⟩)
        go_ret
        have hm0 : (min (most : Int) 0).toNat = 0 := by omega
        exact ⟨.slice none 0 0, by rw [← hm0]; rfl, by rw [← unhide HS]; simpa [sortM] using World.ownsRow_nil _ _ _ _, hgr⟩
      · have hcells : ∀ j, j < ms.length → wr.cell? ⟨g, j * 2, none⟩ = some (encStr (ms.getD j ([], 0)).1) ∧ wr.cell? ⟨g, j * 2 + 1, none⟩ = some (.int .i64 ((ms.getD j ([], 0)).2 : Nat)) := fun j hj => by
          rw [hrow.cellAt (j * 2) (by omega), hrow.cellAt (j * 2 + 1) (by omega)]
          exact flat_at ms j hj
        have hsa := sort_any g cap ms wr hcells (fun j => frozen_of_row wr g j cur 38 hb) (Array.getElem?_eq_some_iff.1 hb).1 (by omega)
        have HSA := hide hsa
        clear hsa hcells
        go_wp2_with fail
        refine (unhide HSA).mono ?_
        rintro e w2 ⟨rfl, hg2, hcs⟩
        have hsl := sortM_length ms
        generalize hS : sortM ms = S at hcs hsl
        have hw2 : w.grownBy w2 none := gnew hgr hg2 (fun j hj => by cases hj; omega)
        have hbase2 : w.heap.size + 1 ≤ w2.heap.size := Nat.le_trans hws hg2.size
        have HS2 := hide hS
        have HCS := hide hcs
        clear hS hcs
        have hnews : ∀ k, k ≤ S.length → ∀ j u, ((S.take k).flatMap encM)[j]? = some u → w2.cell? ((⟨g, 0, none⟩ : Addr).add j) = some u := by
          intro k hk j u hu
          rw [Addr.add_mid, Nat.zero_add]
          have hj : j < ((S.take k).flatMap encM).length := (List.getElem?_eq_some_iff.1 hu).1
          rw [flat_len, List.length_take] at hj
          have hc := unhide HCS (j / 2) (by omega)
          have hu2 : (S.flatMap encM)[j]? = some u := by
            rw [← flat_take, List.getElem?_take] at hu
            split at hu
            · exact hu
            · cases hu
          have hf := flat_at S (j / 2) (by omega)
          rcases Nat.mod_two_eq_zero_or_one j with hm | hm
          · rw [show j / 2 * 2 = j by omega] at hc hf
            rw [hc.1, ← hf.1, hu2]
          · rw [show j / 2 * 2 + 1 = j by omega] at hc hf
            rw [hc.2, ← hf.2, hu2]
        have HN := hide hnews
        clear hnews
        obtain ⟨k, hk⟩ : ∃ k : Nat, (min (most : Int) (ms.length : Int)).toNat = k := ⟨_, rfl⟩
        have hkl : k ≤ ms.length := by omega
        have HK := hide (show k = min most ms.length by omega)
        go_wp2_with (first
            | (at_builtin; refine wpList_append_own _ rfl _ _ 33 rfl (w.heap.size + 1) 38 i0 _ 2 24 Tryz.underlying33 hi hz0 hz1 hz2 rfl (by decide) _ 0 [] rfl (World.ownsRow_nil _ _ _ _) ⟨g, 0, none⟩ k cap ((S.take k).flatMap encM) rfl (by rw [flat_len, List.length_take]; omega) (unhide HN _ (by omega)) (flat_one _) (by unfold maxLen; omega) (by omega) hbase2 ?_; intro v' w3 hown' hg3 hnil3)
            | go_in)
        go_ret
        refine ⟨v', rfl, ?_, gnone hw2 hg3⟩
        rw [← unhide HS, unhide HS2]
        have e1 : S.take most = S.take k := by
          rw [unhide HK]
          by_cases h : most ≤ ms.length
          · rw [Nat.min_eq_left h]
          · rw [Nat.min_eq_right (by omega), List.take_of_length_le (by omega), List.take_of_length_le (by omega)]
        rw [e1]
        refine row_low (base := w.heap.size + 1) ?_ (Nat.le_succ _)
        have e2 : (S.take k).length = k := by rw [List.length_take]; omega
        rw [e2]
        simpa using hown'
    · intro x c kl yd yp w2 cnt2 hkey hlk hv hat hrg2 hlt hg2 hs2 hen
      obtain ⟨x', ex, rfl, _⟩ := Maps.keyOf_str Tryz.underlying9 hkey
      obtain rfl : x = x' := encStr_inj ex
      clear hs2
      have hh : has D (.string x) = true := has_true_of_atKey hat
      obtain ⟨q, hq, hqx⟩ := List.mem_map.1 ((h3 x).1 hh)
      obtain ⟨c', hc', hyc, _⟩ := plainElem_int_inv Tryz.underlying3 hv
      have hcq : c = (q.2 : Nat) := by
        have e1 := h4 q hq .nil
        rw [hqx, hat] at e1
        cases hc'
        simp only [Prod.mk.injEq] at hyc
        rw [hyc.1] at e1
        injection e1 with e2
        injection e2
      subst hqx
      subst hcq
      have hrow2 := hrow.kept hg2 (Or.inr (row_ne_low hrow (Nat.lt_succ_self _)).symm)
      have hnew : q.1 ∉ ms.map Prod.fst := fun hx => by have := ((hC.2 q.1).1 hx).2; rw [hlk] at this; cases this
      have hC2 := hC.step hlk hat
      have hlen : (ms ++ [q]).length ≤ 40 := by
        have := nodup_le (ms.map Prod.fst ++ [q.1]) (M.map Prod.fst) hC2.1 (fun y hy => (h3 y).1 ((hC2.2 y).1 hy).1)
        simp at this ⊢
        omega
      clear hv hyc hc'
      go_wp2_with (first
        | (at_builtin; refine wpList_append_own _ rfl _ _ 33 rfl (w.heap.size + 1) 38 i0 _ 2 24 Tryz.underlying33 hi hz0 hz1 hz2 rfl (by decide) _ _ _ rfl (hrow2.alloc _) ⟨w2.heap.size, 0, none⟩ 1 1 [encStr q.1, .int .i64 (q.2 : Nat)] rfl rfl (two_new _ _ _ _) (by intro u hu; simp at hu; rcases hu with rfl | rfl <;> rfl) (by unfold maxLen; omega) (by omega) (by have := hg2.size; simp; omega) ?_; intro v' w3 hown' hg3 hnil3)
        | go_in)
      have hrg3 := (hrg2.alloc _).kept hg3 (row_ne_low hrow2 (Nat.lt_succ_of_lt hblt)) (row_ne_low hrow2 (Nat.lt_succ_self _))
      go_roundw
      case rel =>
        refine ⟨_, cnt2, ms ++ [q], hrg3, by rw [List.map_append]; exact hC2, fun q' hq' => ?_, ?_, hlen, ?_, ?_⟩
        · rcases List.mem_append.1 hq' with h | h
          · exact hsub q' h
          · simp at h; subst h; exact hq
        · rw [List.flatMap_append, List.length_append]
          exact hown'
        · exact gnew (gnone (gnew hgr hg2 (fun j hj => by cases hj; exact Nat.le_refl _)) (grownBy_none_alloc _ _)) hg3 (fun j hj => Nat.le_of_succ_le (hrow2.lt j hj).1)
        · have := hg2.size
          have := hg3.size
          simp at this
          omega
      case measure => rw [hrg3.left_eq, hrg.left_eq]; exact hlt


set_option maxRecDepth 100000 in
theorem near_row (p f most : Nat) (L : List Bs) (x : ByteArray) (w : World) (hL : IsLex w p L) (hT : Tabs w) (hx : wrong (bs x) = 0) (hf : f ≤ 3) (hmost : most ≤ 9223372036854775807) :
    Calls Tryz.prog 12 #[.pointer (some ⟨p, 0, none⟩), .string x, .int .i64 f, .int .i64 most] w fun e w' => ∃ v, e = .returned (.tuple #[v, .int .i64 0]) ∧ w'.ownsRow w.heap.size 38 2 v (nearL L (bs x) f most).length ((nearL L (bs x) f most).flatMap encM) ∧ w.grownBy w' none := by
  obtain ⟨b, hp, hS, hG⟩ := hL
  have h40 := hG.1
  have hxl := wrong_len hx
  have hsz : x.size = (bs x).length := (Array.length_toList (xs := x.data)).symm
  have hW := wrongWith_any valid_said x w (by omega) hT
  rw [hx] at hW
  have HW := hide hW
  have HX := hide hx
  have hf0 : ¬ (f : Int) < 0 := by omega
  have hf3 : ¬ (3 : Int) < (f : Int) := by omega
  have hm0 : ¬ (most : Int) < 0 := by omega
  have hfl := foundL_le (runesD (bs x)) f L
  clear hW hx hsz hxl
  go_enter Tryz.func12, Tryz.ntmps12
  go_wp2_with fail
  refine (unhide HW).mono ?_
  rintro e w1 ⟨rfl, hg1⟩
  have hp1 := cell_kept hp hg1 (by simp)
  go_wp2_with fail
  refine (within_any b f x L _ (hS.kept hg1 (by simp)) hG (unhide HX)).mono ?_
  rintro e w2 ⟨b2, rfl, hF, hb2, hg2⟩
  go_wp2_with fail
  refine (nearest_row b2 most _ _ hF (by omega) hmost).mono ?_
  rintro e w3 ⟨v, rfl, hrow, hg3⟩
  go_wp2
  go_ret2
  exact ⟨v, rfl, row_low hrow (Nat.le_trans hg1.size hg2.size), gnone (gnone hg1 hg2) hg3⟩


end Go.Proofs.YtdfnngehhiociaaGreatDoor
