import Derived.Test.YtdfnngehhiociaaGreatDoorPuts
namespace Go.Proofs.YtdfnngehhiociaaGreatDoor
open Go.RowKit Go.Maps Go.WideMaps
open Go.Proofs (encStr)

theorem invK (key : Value) (kl : Lit) (hk : keyOf Tryz.prog 9 key = some kl) : ∃ x, key = encStr x := by
  obtain ⟨x, hx, _⟩ := Maps.keyOf_str Tryz.underlying9 hk; exact ⟨x, hx⟩
theorem invU (v : Value) (y : DataW Unit × List MemPlace) (hv : unitElem v = some y) : ∃ _c : Unit, v = (fun _ => Value.agg #[]) _c :=
  ⟨(), (unitElem_inv hv).1⟩

theorem nodup_le : ∀ (ss L : List Bs), ss.Nodup → (∀ x ∈ ss, x ∈ L) → ss.length ≤ L.length
  | [], _, _, _ => Nat.zero_le _
  | x :: ss, L, hn, hs => by
    have hx : x ∈ L := hs x (List.mem_cons_self ..)
    have hn' := List.nodup_cons.1 hn
    have ih := nodup_le ss (L.erase x) hn'.2 (fun y hy => (List.mem_erase_of_ne (fun e : y = x => hn'.1 (by rw [← e]; exact hy))).2 (hs y (List.mem_cons_of_mem _ hy)))
    have := List.length_erase_of_mem hx
    have : 0 < L.length := List.length_pos_of_mem hx
    simp only [List.length_cons]
    omega

set_option maxHeartbeats 1000000 in
set_option maxRecDepth 100000 in
theorem each_any (b : Nat) (L : List Bs) (f : FuncId) (caps : Array Value) (row : Option Nat) (I : List Bs → World → Prop) (w : World) (h : IsSet w b L)
    (hI : ∀ ss w1 w2 r, I ss w1 → w1.grownBy w2 (some r) → w.heap.size ≤ r → I ss w2) (h0 : I [] w) (hrow : ∀ j, row = some j → j < w.heap.size ∧ j ≠ b)
    (he : ∀ args w, (callFunc f args).run Tryz.prog w = .ok (.enter f args) w)
    (hf : ∀ (x : Bs) (ss : List Bs) (w1 : World), x ∈ L → x ∉ ss → ss.length < L.length → I ss w1 → w.grownBy w1 row → Calls Tryz.prog f (#[encStr x] ++ caps) w1 fun e w2 => e = .returned (.tuple #[]) ∧ I (ss ++ [x]) w2 ∧ w1.grownBy w2 row) :
    Calls Tryz.prog 43 #[.map (some b), .func (.func f) #[] caps] w fun e w' => e = .returned (.tuple #[]) ∧ ∃ ss, ss.Perm L ∧ I ss w' ∧ w.grownBy w' row := by
  obtain ⟨D, h1, h2, h3, h4⟩ := h
  have hbl := h1.lt
  go_enter Tryz.func43, Tryz.ntmps43
  go_wp2_with (first | (at_range; refine wpList_range_own _ rfl _ 53 rfl 9 79 law9 Tryz.underlying53 _ b L.length D rfl h1 ?_; intro w0 hrg0 hg0 hs0) | go_in)
  go_frame
  go_loopw [4] (fun _ wr => ∃ (left : Lit → Bool) (cnt : Nat) (ss : List Bs), wr.ranges Tryz.prog 9 unitElem b w.heap.size L.length D left cnt ∧ Collected D left ss ∧ I ss wr ∧ w.grownBy wr row)
    (fun _ wr => wr.rangeLeft b w.heap.size)
  case atStart => exact ⟨_, _, [], hrg0, Collected.start D, hI _ _ _ w.heap.size h0 (hg0.but _) (Nat.le_refl _), hg0.but _⟩
  case round =>
    obtain ⟨left, cnt, ss, hrg, hC, hIs, hgr⟩ := hrel
    go_wp2_with (first
      | (at_next; refine wpList_next_ranges _ rfl _ rfl 9 law9 (unitElem (H := Unit)) encStr (fun _ => Value.agg #[]) invK invU b w.heap.size L.length _ _ _ rfl hrg ?_ ?_)
      | go_in)
    · intro hc0 hl0
      go_wp2
      go_end0
      refine ⟨rfl, ss, ?_, hIs, hgr⟩
      exact (List.perm_ext_iff_of_nodup hC.1 h2).2 fun x => by rw [hC.2 x, hl0, h3]; simp
    · intro x kl yd yp w2 cnt2 hkey hlk hv hat hrg2 hlt hg2 hs2 hen
      obtain ⟨x', ex, rfl, _⟩ := Maps.keyOf_str Tryz.underlying9 hkey
      obtain rfl : x = x' := encStr_inj ex
      clear hs2
      have hh : has D (.string x) = true := has_true_of_atKey hat
      have hnew : x ∉ ss := fun hx => by have := ((hC.2 x).1 hx).2; rw [hlk] at this; cases this
      have hgr2 : w.grownBy w2 row := gnew hgr hg2 (fun j hj => by cases hj; exact Nat.le_refl _)
      have hsub : (ss ++ [x]).length ≤ L.length := nodup_le _ _ (hC.step hlk hat).1 (fun y hy => by
        rcases List.mem_append.1 hy with h | h
        · exact (h3 y).1 ((hC.2 y).1 h).1
        · simp at h; subst h; exact (h3 y).1 hh)
      have hcall := hf x ss w2 ((h3 x).1 hh) hnew (by simp at hsub; omega) (hI _ _ _ _ hIs hg2 (Nat.le_refl _)) hgr2
      have HC := hide hcall
      clear hcall hsub
      go_wp2_with fail
      refine (unhide HC).mono ?_
      rintro e w3 ⟨rfl, hI3, hg3⟩
      have hrg3 := hrg2.kept hg3 (fun e => (hrow _ e.symm).2 rfl) (fun e => absurd (hrow _ e.symm).1 (Nat.lt_irrefl _))
      go_wp2
      go_roundw
      case rel => exact ⟨_, cnt2, ss ++ [x], hrg3, hC.step hlk hat, hI3, gtrans hgr2 hg3⟩
      case measure => rw [hrg3.left_eq, hrg.left_eq]; exact hlt

end Go.Proofs.YtdfnngehhiociaaGreatDoor
