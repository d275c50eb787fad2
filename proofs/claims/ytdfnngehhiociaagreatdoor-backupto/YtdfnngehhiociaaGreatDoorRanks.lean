import Derived.Test.YtdfnngehhiociaaGreatDoorPlain
import Derived.Laws.Cover1
namespace Go.Proofs.YtdfnngehhiociaaGreatDoor
open Go.RowKit Go.Maps Go.WideMaps Go.Sort
open Go.Proofs (encStr)

theorem bs_mk (x : Bs) : bs ⟨x.toArray⟩ = x := by simp

theorem rank_at (p k : Nat) (L : List Bs) (w : World) (hL : IsLex w p L) (hn : L.Nodup) (hk : k < L.length) :
    Calls Tryz.prog 11 #[.pointer (some ⟨p, 0, none⟩), encStr ((sorted L).getD k [])] w fun e w' => e = .returned (.tuple #[.int .i64 k, .int .i64 0]) ∧ w.grownBy w' none := by
  have hm := sorted_mem L k hk
  have hG : Good L := by obtain ⟨b, _, _, h⟩ := hL; exact h
  have hl := wrong_len (hG.2 _ hm)
  have h := rank_any p L ⟨((sorted L).getD k []).toArray⟩ w hL (by rw [size_mk]; omega)
  rw [bs_mk, if_pos hm, lower_at hn k hk] at h
  exact h

theorem near_at (p : Nat) (L : List Bs) (x : Bs) (w : World) (hL : IsLex w p L) (hT : Tabs w) (hn : L.Nodup) (hx : x ∈ L) :
    Calls Tryz.prog 12 #[.pointer (some ⟨p, 0, none⟩), encStr x, .int .i64 0, .int .i64 5] w fun e w' => ∃ v, e = .returned (.tuple #[v, .int .i64 0]) ∧ MRow w' v [(x, 0)] ∧ w.grownBy w' none := by
  have hG : Good L := by obtain ⟨b, _, _, h⟩ := hL; exact h
  have h := near_any p 0 5 L ⟨x.toArray⟩ w hL hT (by rw [bs_mk]; exact hG.2 x hx) (by decide) (by decide)
  rw [bs_mk, near_zero hn hG hx] at h
  exact h

theorem prefix_all (p : Nat) (L : List Bs) (w : World) (hL : IsLex w p L) :
    Calls Tryz.prog 9 #[.pointer (some ⟨p, 0, none⟩), .string ⟨#[]⟩] w fun e w' => ∃ v, e = .returned v ∧ SRow w' v (sorted L) ∧ w.grownBy w' none := by
  have h := prefix_any p L ⟨#[]⟩ w hL
  rw [show L.filter (fun x => Lib.hasPrefix x (bs ⟨#[]⟩)) = L from List.filter_eq_self.2 (fun x _ => hasPrefix_nil x)] at h
  exact h

theorem less_enc {x y : Bs} (h : x < y) : Op.bytesLess x y = true := by
  rw [bytesLess_eq]; simpa using h

theorem IsLex.nodup {w : World} {p : Nat} {L : List Bs} (h : IsLex w p L) : L.Nodup := by
  obtain ⟨b, _, hS, _⟩ := h; exact hS.nodup
theorem IsLex.good {w : World} {p : Nat} {L : List Bs} (h : IsLex w p L) : Good L := by
  obtain ⟨b, _, _, hG⟩ := h; exact hG

set_option maxHeartbeats 1000000 in
set_option maxRecDepth 100000 in
theorem ranks_any (v : Value) (w : World) (hS : Std w) (hv : Script w v) : Calls Tryz.prog 3 #[v] w fun e w' => e = .returned (.bool true) ∧ w.grownBy w' none := by
  have hT := hS.tabs
  have hGr := hide (grown_any v w hS hv)
  go_enter Tryz.func3, Tryz.ntmps3
  go_wp2_with fail
  refine (unhide hGr).mono ?_
  rintro e w1 ⟨p, L, rfl, hL, hg1⟩
  have hn := hL.nodup
  have hGd := hL.good
  have h40 : (L.length : Int) ≤ 40 := by have := hGd.1; omega
  have HL := hide hL
  have HT := hide (hT.none hg1)
  have HN := hide hn
  have HGd := hide hGd
  clear hL hT hn hGd hGr hv
  go_wp2_with fail
  refine (words_any p L w1 (unhide HL)).mono ?_
  rintro e w' ⟨rfl, rfl⟩
  go_wp2_with fail
  refine (prefix_all p L _ (unhide HL)).mono ?_
  rintro e w2 ⟨va, rfl, hrow, hg2⟩
  have HT2 := hide ((unhide HT).none hg2)
  have HL2 := hide ((unhide HL).kept hg2)
  have hg12 := gnone hg1 hg2
  clear HT HL hg1 hg2
  rcases hrow with ⟨rfl, hnil⟩ | ⟨g, cap, rfl, hcells⟩
  · have hl0 : L.length = 0 := by rw [← sorted_length, hnil]; rfl
    obtain rfl : L = [] := List.length_eq_zero_iff.1 hl0
    go_wp2
    refine wp_loop_rounds 1 ?_
    rw [rounds_succ]
    go_wp2_with fail
    refine (at_bad p [] 0 w2 (unhide HL2) (Or.inr (by simp))).mono ?_
    rintro e w' ⟨rfl, rfl⟩
    go_wp2_with (first | (go_at_call 13; refine (num_any _ _).mono ?_; rintro e w' ⟨rfl, rfl⟩) | (go_at_call 14; refine (alive_any _ (unhide HT2)).mono ?_; rintro e w3 ⟨rfl, hg3⟩))
    go_ret
    exact ⟨rfl, gnone hg12 hg3⟩
  · have hsl := sorted_length L
    rw [hsl] at hcells ⊢
    have HC := hide hcells
    clear hcells hsl
    go_wp2
    go_loopw [6] (fun i wr => ∃ (k : Nat), k ≤ L.length ∧ i = .int .i64 k ∧ w2.grownBy wr none) (fun i _ => L.length - (intOf i).toNat)
    case atStart => exact ⟨0, Nat.zero_le _, rfl, grownBy_refl _ _⟩
    case round =>
      obtain ⟨k, hk, rfl, hgk⟩ := hrel
      by_cases hlt : k < L.length
      · have hki : (k : Int) < (L.length : Int) := by omega
        have hLk := (unhide HL2).kept hgk
        have hTk := (unhide HT2).none hgk
        have hA := at_any p L k wr hLk hlt
        have hR := fun w' (hg : wr.grownBy w' none) => rank_at p k L w' (hLk.kept hg) (unhide HN) hlt
        have hNr := fun w' (hg : wr.grownBy w' none) => near_at p L ((sorted L).getD k []) w' (hLk.kept hg) (hTk.none hg) (unhide HN) (sorted_mem L k hlt)
        have hck := cell_kept (unhide HC k hlt) hgk (by simp)
        have hless := fun h0 : 0 < k => less_enc (sorted_next (unhide HN) k hlt h0)
        have hcp := fun h0 : 0 < k => cell_kept (unhide HC (k - 1) (by omega)) hgk (by simp)
        generalize (sorted L).getD k [] = x at hA hR hNr hck hless
        generalize (sorted L).getD (k - 1) [] = y at hcp hless
        have HA := hide hA
        have HR := hide hR
        have HNr := hide hNr
        clear hA hR hNr hLk hTk
        go_wp2_with fail
        refine (unhide HA).mono ?_
        rintro e w3 ⟨rfl, hg3⟩
        go_wp2_with fail
        refine (unhide HR _ hg3).mono ?_
        rintro e w4 ⟨rfl, hg4⟩
        have hg34 := gnone hg3 hg4
        go_wp2_with fail
        refine (unhide HNr _ hg34).mono ?_
        rintro e w5 ⟨vm, rfl, hrow, hg5⟩
        have hg35 := gnone hg34 hg5
        rcases hrow with ⟨rfl, hnil⟩ | ⟨gm, capm, rfl, hcm⟩
        · cases hnil
        · have hm0 : w5.cell? ⟨gm, 0, none⟩ = some (encStr x) := (hcm 0 (by simp)).1
          have hm1 : w5.cell? ⟨gm, 1, none⟩ = some (.int .i64 0) := (hcm 0 (by simp)).2
          have hck5 := cell_kept hck hg35 (by simp)
          clear hcm
          by_cases h0 : 0 < k
          · have h0i : (0 : Int) < (k : Int) := by omega
            have hcp5 := cell_kept (hcp h0) hg35 (by simp)
            have hl := hless h0
            clear hcp hless
            go_wp2_with (go_at_call 13; refine (num_any _ _).mono ?_; rintro e w' ⟨rfl, rfl⟩)
            exact ⟨⟨k + 1, by omega, by go_num, gnone hgk hg35⟩, by simp [intOf]; omega⟩
          · have h0i : ¬ (0 : Int) < (k : Int) := by omega
            clear hcp hless
            go_wp2_with (go_at_call 13; refine (num_any _ _).mono ?_; rintro e w' ⟨rfl, rfl⟩)
            exact ⟨⟨k + 1, by omega, by go_num, gnone hgk hg35⟩, by simp [intOf]; omega⟩
      · obtain rfl : k = L.length := by omega
        have hA := at_bad p L L.length wr ((unhide HL2).kept hgk) (Or.inr (Int.le_refl _))
        have HA := hide hA
        have HTk := hide ((unhide HT2).none hgk)
        clear hA
        go_wp2_with (first | (go_at_call 10; refine (unhide HA).mono ?_; rintro e w' ⟨rfl, rfl⟩) | (go_at_call 13; refine (num_any _ _).mono ?_; rintro e w' ⟨rfl, rfl⟩) | (go_at_call 14; refine (alive_any _ (unhide HTk)).mono ?_; rintro e w3 ⟨rfl, hg3⟩))
        go_ret
        exact ⟨rfl, gnone (gnone hg12 hgk) hg3⟩

end Go.Proofs.YtdfnngehhiociaaGreatDoor
