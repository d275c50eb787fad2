import Derived.Test.YtdfnngehhiociaaGreatDoorNearC
namespace Go.Proofs.YtdfnngehhiociaaGreatDoor
open Go.RowKit Go.Maps Go.WideMaps Go.Sort
open Go.Proofs (encStr)

theorem Tryd_info9 : (Tryz.prog.info? 9).map (fun i => (i.zero, i.size, i.bytes)) = some (some (.string ⟨#[]⟩), 1, 16) := by kernel_rfl

theorem Strs.of {w : World} {base : Nat} {v : Value} {ws : List ByteArray} (h : w.ownsRow base 9 1 v ws.length (ws.map Value.string)) : Strs w v ws := by
  rcases h.2 with ⟨rfl, h0⟩ | ⟨g, cap, cur, rfl, _⟩
  · exact Or.inl ⟨rfl, List.length_eq_zero_iff.1 h0⟩
  · refine Or.inr ⟨g, 0, cap, rfl, fun j hj => ?_⟩
    rw [Nat.zero_add, h.cellAt j (by omega)]
    simp [List.getD, hj]

theorem one_new (w : World) (v : Value) (t : TypeId) : ∀ j u, ([v] : List Value)[j]? = some u → (w.alloc (.cells #[v] t)).cell? ((⟨w.heap.size, 0, none⟩ : Addr).add j) = some u := by
  intro j u hu
  rw [Addr.add_mid, Nat.zero_add, cell_of_row _ _ _ _ t (0, 0) (Go.heap_alloc_new w _)]
  simpa using hu

theorem extract_le (s : ByteArray) (i j : Nat) : (s.extract i j).size ≤ s.size := by
  rw [ByteArray.size_extract]; omega

set_option maxHeartbeats 1000000 in
set_option maxRecDepth 100000 in
theorem words15_any (s : ByteArray) (w : World) (hs : s.size ≤ 1048576) :
    Calls Tryz.prog 24 #[.string s] w fun e w' => ∃ v ws, e = .returned v ∧ Strs w' v ws ∧ ws.length ≤ 1048576 ∧ (∀ x ∈ ws, x.size ≤ 1048576) ∧ w.grownBy w' none := by
  obtain ⟨i0, hi, hz0, hz1, hz2⟩ := info_parts Tryd_info9
  go_enter Tryz.func24, Tryz.ntmps24
  go_wp2
  go_loopw [3, 4, 5] (fun l fr i wr => ∃ (k f : Nat) (ws : List ByteArray), k ≤ s.size ∧ i = .int .i64 k ∧ fr = .int .i64 f ∧ f ≤ k ∧ wr.ownsRow w.heap.size 9 1 l ws.length (ws.map Value.string) ∧ ws.length ≤ k ∧ (∀ x ∈ ws, x.size ≤ 1048576) ∧ w.grownBy wr none) (fun _ _ i _ => s.size - (intOf i).toNat)
  case atStart => exact ⟨0, 0, [], Nat.zero_le _, rfl, rfl, Nat.le_refl _, World.ownsRow_nil _ _ _ _, Nat.le_refl _, fun x hx => absurd hx (by simp), grownBy_refl _ _⟩
  case round =>
    obtain ⟨k, f, ws, hk, rfl, rfl, hf, hrow, hwl, hws, hg⟩ := hrel
    by_cases hlt : k < s.size
    · have hki : (k : Int) < (s.size : Int) := by omega
      have hfi : (f : Int) ≤ (k : Int) := by omega
      have hke : (k : Int) ≤ (s.size : Int) := by omega
      by_cases hc : (s[k].toNat : Int) = 44
      · have hcb : ((s[k].toNat : Int) == 44) = true := by simpa using hc
        go_wp2_with (first
          | (at_builtin; refine wpList_append_own _ rfl _ _ 26 rfl w.heap.size 9 i0 _ 1 16 Tryz.underlying26 hi hz0 hz1 hz2 rfl (by decide) _ _ _ rfl (hrow.alloc _) ⟨wr.heap.size, 0, none⟩ 1 1 [.string (s.extract f k)] rfl rfl (one_new _ _ _) (by intro u hu; simp at hu; subst hu; rfl) (by unfold maxLen; omega) (by omega) (by have := hg.size; simp; omega) ?_; intro v' w1 hown' hg1 hnil1)
          | go_in)
        go_roundw
        case rel =>
          refine ⟨k + 1, k + 1, ws ++ [s.extract f k], by omega, by go_num, by go_num, Nat.le_refl _, ?_, by simp; omega, fun x hx => ?_, ?_⟩
          · rw [List.map_append, List.length_append]
            exact hown'
          · rcases List.mem_append.1 hx with h | h
            · exact hws x h
            · simp at h; subst h
              have := extract_le s f k
              omega
          · exact gnew (gnone hg (grownBy_none_alloc _ _)) hg1 (fun j hj => (hrow.lt j hj).1)
        case measure => simp [intOf]; omega
      · have hcb : ((s[k].toNat : Int) == 44) = false := by simpa using hc
        go_wp2
        go_roundw
        case rel => exact ⟨k + 1, f, ws, by omega, by go_num, rfl, by omega, hrow, by omega, hws, hg⟩
        case measure => simp [intOf]; omega
    · obtain rfl : k = s.size := by omega
      go_wp2
      go_ret
      exact ⟨_, ws, rfl, Strs.of hrow, by omega, hws, hg⟩

end Go.Proofs.YtdfnngehhiociaaGreatDoor
