import Derived.Test.YtdfnngehhiociaaGreatDoorNear2
import Derived.Deep.AppendLies
namespace Go.Proofs.YtdfnngehhiociaaGreatDoor
open Go.RowKit
open Go.Proofs (encStr)

theorem info9s : (Tryz.prog.info? 9).map (fun i => (i.zero, i.size, i.bytes)) = some (some (.string ⟨#[]⟩), 1, 16) := by kernel_rfl

theorem take_end {α : Type} (l : List α) (k : Nat) (d : α) (hk : k < l.length) : l.take (k + 1) = l.take k ++ [l.getD k d] := by
  rw [List.take_add_one]
  simp [List.getD, hk]

theorem row_from {w : World} {base : Nat} {e : TypeId} {size : Nat} {v : Value} {n : Nat} {xs : List Value} (h : w.ownsRow base e size v n xs) {g : Nat} (hg : v.ownBlock = some g) : base ≤ g := by
  rcases h.2 with ⟨rfl, _⟩ | ⟨g', cap, cur, rfl, hb, hc, _⟩
  · simp [Value.ownBlock] at hg
  · have : g' = g := Option.some.inj hg
    subst this
    exact hb

theorem one_laid (w : World) (u : Value) : ∀ j x, [u][j]? = some x → (w.alloc (.cells #[u] 9)).cell? ((⟨w.heap.size, 0, none⟩ : Addr).add j) = some x := by
  intro j x hx
  rw [Addr.add_mid, Nat.zero_add, cell_of_row _ _ _ _ 9 (0, 0) (Go.heap_alloc_new w _)]
  simpa using hx

theorem srow_form {w : World} {v : Value} {xs : List Bs} (h : SRow w v xs) : ∃ ad cap, v = .slice ad xs.length cap ∧ ∀ k, k < xs.length → ∃ g, ad = some ⟨g, 0, none⟩ ∧ w.cell? ⟨g, k, none⟩ = some (encStr (xs.getD k [])) := by
  rcases h with ⟨rfl, rfl⟩ | ⟨g, cap, rfl, hc⟩
  · exact ⟨none, 0, rfl, fun k hk => by simp at hk⟩
  · exact ⟨_, _, rfl, fun k hk => ⟨g, rfl, hc k hk⟩⟩

set_option maxHeartbeats 400000 in
set_option maxRecDepth 100000 in
theorem own_any (v : Value) (xs : List Bs) (w : World) (hv : SRow w v xs) (hl : xs.length ≤ 40) : Calls Tryz.prog 19 #[v] w fun e w' => ∃ u, e = .returned u ∧ w'.ownsRow w.heap.size 9 1 u xs.length (xs.map encStr) ∧ w.grownBy w' none := by
  obtain ⟨ad, cap, rfl, h1⟩ := srow_form hv
  have H1 := hide h1
  obtain ⟨i0, hi, hz0, hz1, hz2⟩ := info_parts info9s
  clear h1 hv
  go_enter Tryz.func19, Tryz.ntmps19
  go_wp2_with fail
  go_loopw [3, 4] (fun u i wr => ∃ k : Nat, k ≤ xs.length ∧ i = .int .i64 k ∧ Hid (wr.ownsRow w.heap.size 9 1 u k ((xs.take k).map encStr) ∧ w.grownBy wr none)) (fun _ i _ => xs.length - (intOf i).toNat)
  case atStart => exact ⟨0, Nat.zero_le _, rfl, World.ownsRow_nil _ _ _ _, grownBy_refl _ _⟩
  case round =>
    obtain ⟨k, hk, rfl, HX⟩ := hrel
    by_cases hlt : k < xs.length
    · obtain ⟨g, rfl, c1⟩ := unhide H1 k hlt
      have d1 := (unhide HX).2.cell c1 (by simp)
      have htk := take_end xs k [] hlt
      generalize xs.getD k [] = x at d1 htk
      have HTK := hide htk
      have HAL := hide ((unhide HX).1.alloc (.cells #[encStr x] 9))
      have hgs := (unhide HX).2.size
      have HON : Hid (∀ u ∈ [encStr x], u.oneCell' = true) := by
        intro u hu
        simp at hu
        subst hu
        rfl
      clear c1 htk
      go_wp2_with (first
        | (at_builtin; refine wpList_append_lies _ rfl _ _ 26 rfl w.heap.size 9 i0 _ 1 16 Tryz.underlying26 hi hz0 hz1 hz2 rfl (by decide) _ _ _ rfl (unhide HAL) ⟨wr.heap.size, 0, none⟩ 1 1 [encStr x] rfl rfl (one_laid wr (encStr x)) (unhide HON) (by omega) (by unfold maxLen; omega) (by omega) (by simp; omega) _ rfl ?_; intro g' cap' w6 hown6 hg6 _ _; have HN6 := hide (And.intro hown6 hg6); clear hown6 hg6)
        | go_in)
      go_roundw
      case rel =>
        refine ⟨k + 1, by omega, by go_num, ?_, gnew (gnone (unhide HX).2 (grownBy_none_alloc _ _)) (unhide HN6).2 (fun j e => row_from (unhide HAL) e)⟩
        rw [unhide HTK, List.map_append]
        exact (unhide HN6).1
      case measure => simp [intOf]; omega
    · obtain rfl : k = xs.length := by omega
      rw [List.take_length] at HX
      go_wp2_with fail
      go_ret
      exact ⟨_, rfl, (unhide HX).1, (unhide HX).2⟩

end Go.Proofs.YtdfnngehhiociaaGreatDoor
