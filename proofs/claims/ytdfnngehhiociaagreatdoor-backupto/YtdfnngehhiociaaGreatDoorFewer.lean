import Derived.Test.YtdfnngehhiociaaGreatDoorRanks
namespace Go.Proofs.YtdfnngehhiociaaGreatDoor
open Go.RowKit
open Go.Proofs (encStr)

theorem words_take (L : List Bs) (k : Nat) (hk : k < L.length) : weight ((wordsR L).take (k + 1)) = weight ((wordsR L).take k) + (runesD ((sorted L).getD k [])).length := by
  have hl : (wordsR L).length = L.length := by unfold wordsR; rw [List.length_map, List.length_mergeSort]
  have e : (wordsR L).take (k + 1) = (wordsR L).take k ++ [runesD ((sorted L).getD k [])] := by
    rw [take_snoc (wordsR L) k [] (by omega)]
    have hk' : k < (L.mergeSort leB).length := by rw [List.length_mergeSort]; exact hk
    have e2 : (wordsR L).getD k [] = runesD ((sorted L).getD k []) := by
      unfold wordsR sorted
      simp only [List.getD, List.getElem?_map, List.getElem?_eq_getElem hk']
      rfl
    rw [e2]
  rw [e]
  simp [weight]

theorem weight_append (A B : List Rs) : weight (A ++ B) = weight A + weight B := by
  unfold weight
  rw [List.map_append, List.sum_append]

theorem words_take_le (L : List Bs) (k : Nat) : weight ((wordsR L).take k) ≤ weight (wordsR L) := by
  have h := congrArg weight (List.take_append_drop k (wordsR L))
  rw [weight_append] at h
  omega

theorem words_mem {L : List Bs} {x : Bs} (h : x ∈ L) : runesD x ∈ wordsR L := by
  unfold wordsR
  exact List.mem_map_of_mem (List.mem_mergeSort.2 h)

theorem one_word (x : Bs) : wordsR [x] = [runesD x] := by simp [wordsR]

theorem build_one {x : Bs} (h : wrong x = 0) : withR [] [x] = ([x], 0, 0) := by
  have he : comeE [] x = 0 := by simp [comeE, h]
  simp [withR, tryAll, he, comeN]

set_option maxHeartbeats 1000000 in
set_option maxRecDepth 100000 in
theorem fewer_any (v : Value) (w : World) (hS : Std w) (hv : Script w v) : Calls Tryz.prog 5 #[v] w fun e w' => e = .returned (.bool true) ∧ w.grownBy w' none := by
  have hGr := hide (grown_any v w hS hv)
  have HSt := hide hS
  go_enter Tryz.func5, Tryz.ntmps5
  go_wp2_with fail
  refine (unhide hGr).mono ?_
  rintro e w1 ⟨p, L, rfl, hL, hg1⟩
  have hGd := hL.good
  have h40 : (L.length : Int) ≤ 40 := by have := hGd.1; omega
  have HL := hide hL
  have HGd := hide hGd
  clear hL hGd hGr hv hS
  go_wp2_with fail
  refine (prefix_all p L _ (unhide HL)).mono ?_
  rintro e w2 ⟨va, rfl, hrow, hg2⟩
  have HL2 := hide ((unhide HL).kept hg2)
  have hg12 := gnone hg1 hg2
  have HS2 := hide ((unhide HSt).none hg12)
  have Hg12 := hide hg12
  clear HL hg1 hg2 HSt hg12
  obtain ⟨ad, cap, rfl, hcells⟩ : ∃ ad cap, va = .slice ad L.length cap ∧ ∀ k, k < L.length → ∃ g, ad = some ⟨g, 0, none⟩ ∧ w2.cell? ⟨g, k, none⟩ = some (encStr ((sorted L).getD k [])) := by
    rcases hrow with ⟨rfl, hnil⟩ | ⟨g, cap, rfl, hc⟩
    · have hl0 : L.length = 0 := by rw [← sorted_length, hnil]; rfl
      exact ⟨none, 0, by rw [hl0], fun k hk => by omega⟩
    · rw [sorted_length] at hc ⊢
      exact ⟨_, _, rfl, fun k hk => ⟨g, rfl, hc k hk⟩⟩
  have HC := hide hcells
  have hwt := sound_weight (good_sound (unhide HGd))
  clear hrow hcells
  go_wp2_with fail
  go_loopw [5, 6] (fun n i wr => ∃ k : Nat, k ≤ L.length ∧ i = .int .i64 k ∧ n = .int .i64 ((1 + weight ((wordsR L).take k) : Nat) : Int) ∧ Hid (w2.grownBy wr none)) (fun _ i _ => L.length - (intOf i).toNat)
  case atStart => exact ⟨0, Nat.zero_le _, rfl, rfl, grownBy_refl _ _⟩
  case round =>
    obtain ⟨k, hk, rfl, rfl, Hgk⟩ := hrel
    have hwk := words_take_le L k
    by_cases hlt : k < L.length
    · obtain ⟨g, rfl, hc⟩ := unhide HC k hlt
      have hck := (unhide Hgk).cell hc (by simp)
      have hwt1 := words_take L k hlt
      have hwk1 := words_take_le L (k + 1)
      have hmem := sorted_mem L k hlt
      generalize (sorted L).getD k [] = x at hck hwt1 hmem
      have hcs : wr.cell? ⟨g, k, none⟩ = some (.string ⟨x.toArray⟩) := hck
      obtain ⟨s, hs⟩ : ∃ s : ByteArray, s = ⟨x.toArray⟩ := ⟨_, rfl⟩
      have hbs : bs s = x := by rw [hs]
      rw [← hs] at hcs
      obtain ⟨N, hN⟩ : ∃ N, N = weight ((wordsR L).take k) := ⟨_, rfl⟩
      rw [← hN] at hwt1 hwk ⊢
      have HN1 := hide hwt1
      have HBS := hide hbs
      have hNl : N + (runesD x).length ≤ 400 := by omega
      clear hck hc hs hwt1 hN hwk1 hbs
      go_wp2_with fail
      go_loopw [5] (fun n wo => ∃ pos c : Nat, wo = wr.iter s pos ∧ n = .int .i64 ((1 + N + c : Nat) : Int) ∧ Hid (c + (runesD ((bs s).drop pos)).length = (runesD x).length)) (fun _ wo => s.size - wo.iterPos wr.heap.size)
      case atStart => exact ⟨0, 0, rfl, rfl, by show 0 + (runesD ((bs s).drop 0)).length = _; rw [List.drop_zero, unhide HBS, Nat.zero_add]⟩
      case round =>
        obtain ⟨pos, c, rfl, rfl, Hcc⟩ := hrel
        have hcc := unhide Hcc
        by_cases hp : pos < s.size
        · have hnx : ∀ ty, (Instr.next (.pointer (some ⟨wr.heap.size, 0, none⟩)) true ty).run Tryz.prog (wr.iter s pos) = _ := fun ty => run_next_any wr s pos ty hp
          have hwd := Lib.decode_width_pos s pos hp
          have hst := runes_at s pos hp
          rw [hst, List.length_cons] at hcc
          have hcb : c < 400 := by omega
          have Hcc2 := hide hcc
          clear hst hcc
          go_wp2_with fail
          go_roundw
          case rel => exact ⟨pos + (Utf8.decode s pos).2, c + 1, rfl, by go_num, by have := unhide Hcc2; show c + 1 + _ = _; omega⟩
          case measure => simp; omega
        · have hnx : ∀ ty, (Instr.next (.pointer (some ⟨wr.heap.size, 0, none⟩)) true ty).run Tryz.prog (wr.iter s pos) = _ := fun ty => run_next_end wr s pos ty hp
          have hz : c = (runesD x).length := by
            rw [drop_end s pos hp, show runesD ([] : Bs) = [] from rfl, List.length_nil, Nat.add_zero] at hcc
            exact hcc
          subst hz
          clear hcc Hcc
          go_wp2_with fail
          go_roundw
          case rel =>
            refine ⟨k + 1, by omega, by go_num, ?_, gnone (unhide Hgk) (grownBy_none_alloc _ _)⟩
            rw [unhide HN1, Nat.add_assoc]
          case measure => simp [intOf]; omega
    · obtain rfl : k = L.length := by omega
      have hl : (wordsR L).length = L.length := by unfold wordsR; rw [List.length_map, List.length_mergeSort]
      rw [show (wordsR L).take L.length = wordsR L from by rw [← hl]; exact List.take_length]
      have hLk := (unhide HL2).kept (unhide Hgk)
      have hSk := (unhide HS2).none (unhide Hgk)
      have hle := graph_le (wordsR L)
      have hps := graph_pos (wordsR L)
      have HST := hide (fun W (hW : wr.grownBy W none) => states_any p L W (hLk.kept hW) (hSk.none hW).tabs)
      have HGE := hide (fun (x : Bs) (hx : x ∈ L) => graph_ge (words_mem hx))
      generalize (graphR (wordsR L)).length = G at hle hps HST HGE
      generalize weight (wordsR L) = N at hle hwt
      have hG1 : ¬ ((1 + N : Nat) : Int) < (G : Int) := by omega
      have hG2 : ¬ (G : Int) < 1 := by omega
      have HSK := hide hSk
      have HCk : Hid (∀ k, k < L.length → ∃ g, ad = some ⟨g, 0, none⟩ ∧ wr.cell? ⟨g, k, none⟩ = some (encStr ((sorted L).getD k []))) := by
        intro k hk
        obtain ⟨g, h1, h2⟩ := unhide HC k hk
        exact ⟨g, h1, (unhide Hgk).cell h2 (by simp)⟩
      clear hLk hSk HC HL2 HS2 hk hlt hwk
      go_wp2_with fail
      refine (unhide HST _ (grownBy_refl _ _)).mono ?_
      rintro e w3 ⟨rfl, hg3⟩
      go_wp2_with fail
      refine (unhide HST _ hg3).mono ?_
      rintro e w4 ⟨rfl, hg4⟩
      have Hg34 := hide (gnone hg3 hg4)
      clear hg3 hg4
      go_wp2_with fail
      go_loopw [7] (fun i wx => ∃ k : Nat, k ≤ L.length ∧ i = .int .i64 k ∧ Hid (wr.grownBy wx none)) (fun i _ => L.length - (intOf i).toNat)
      case atStart => exact ⟨0, Nat.zero_le _, rfl, Hg34⟩
      case round =>
        obtain ⟨k, hk, rfl, Hgx⟩ := hrel
        by_cases hlt : k < L.length
        · obtain ⟨g, rfl, hc⟩ := unhide HCk k hlt
          have hck := (unhide Hgx).cell hc (by simp)
          have hmem := sorted_mem L k hlt
          generalize (sorted L).getD k [] = x at hck hmem
          have hwr := (unhide HGd).2 x hmem
          have hge := unhide HGE x hmem
          have hx10 := (good_word hwr).2.1
          have hcs : wr.cell? ⟨g, k, none⟩ = some (.string ⟨x.toArray⟩) := hck
          obtain ⟨s, hs⟩ : ∃ s : ByteArray, s = ⟨x.toArray⟩ := ⟨_, rfl⟩
          have hbs : bs s = x := by rw [hs]
          rw [← hs] at hcs
          have hssz : s.size ≤ 281474976710656 := by
            have h1 := encW_len (runesD x)
            rw [(good_word hwr).2.2.1] at h1
            rw [hs]
            show x.toArray.size ≤ _
            rw [List.size_toArray]
            omega
          have ga := grownBy_none_alloc wr (.cells #[.string s] 9)
          have hgr : wr.grownBy (wr.alloc (.cells #[.string s] 9)) none := ga
          have hB := build_any [s] (.slice (some ⟨wr.heap.size, 0, none⟩) 1 1) (wr.alloc (.cells #[.string s] 9)) (((unhide HSK).none (unhide Hgx)).none ga).tabs (Or.inr ⟨wr.heap.size, 0, 1, rfl, fun j hj => by
            obtain rfl : j = 0 := by simp at hj; exact hj
            rw [cell_of_row _ _ _ _ 9 (0, 0) (Go.heap_alloc_new wr _)]
            rfl⟩) (by simp) (fun y hy => by simp at hy; subst hy; exact hssz)
          rw [show ([s].map bs) = [x] from by simp [hbs], build_one hwr] at hB
          have HB := hide hB
          have HBS := hide hbs
          have Hga := hide ga
          obtain ⟨M, hM⟩ : ∃ M, M = (runesD x).length := ⟨_, rfl⟩
          rw [← hM] at hge hx10
          have HM := hide hM
          have hkG : ¬ (G : Int) < ((1 + M : Nat) : Int) := by omega
          clear hck hc hs hbs hB hgr ga hM hwr hmem
          go_wp2_with fail
          refine (unhide HB).mono ?_
          rintro e w5 ⟨hg5, ⟨_, p1, rfl, hL1⟩ | ⟨h0, _⟩⟩
          · have hcs5 := hg5.cell (show (wr.alloc (.cells #[.string s] 9)).cell? ⟨g, k, none⟩ = some (.string s) from (unhide Hga).cell hcs (by simp)) (by simp)
            have Hg5 := hide (gnone (unhide Hga) hg5)
            have HL1 := hide hL1
            clear hg5 hL1 hcs
            go_wp2_with fail
            go_loopw [11] (fun n wo => ∃ pos c : Nat, wo = w5.iter s pos ∧ n = .int .i64 ((1 + c : Nat) : Int) ∧ Hid (c + (runesD ((bs s).drop pos)).length = M)) (fun _ wo => s.size - wo.iterPos w5.heap.size)
            case atStart => exact ⟨0, 0, rfl, rfl, by show 0 + (runesD ((bs s).drop 0)).length = _; rw [List.drop_zero, unhide HBS, Nat.zero_add, unhide HM]⟩
            case round =>
              obtain ⟨pos, c, rfl, rfl, Hcc⟩ := hrel
              have hcc := unhide Hcc
              by_cases hp : pos < s.size
              · have hnx : ∀ ty, (Instr.next (.pointer (some ⟨w5.heap.size, 0, none⟩)) true ty).run Tryz.prog (w5.iter s pos) = _ := fun ty => run_next_any w5 s pos ty hp
                have hwd := Lib.decode_width_pos s pos hp
                have hst := runes_at s pos hp
                rw [hst, List.length_cons] at hcc
                have hcb : c < 400 := by omega
                have Hcc2 := hide hcc
                clear hst hcc
                go_wp2_with fail
                go_roundw
                case rel => exact ⟨pos + (Utf8.decode s pos).2, c + 1, rfl, by go_num, by have := unhide Hcc2; show c + 1 + _ = _; omega⟩
                case measure => simp; omega
              · have hnx : ∀ ty, (Instr.next (.pointer (some ⟨w5.heap.size, 0, none⟩)) true ty).run Tryz.prog (w5.iter s pos) = _ := fun ty => run_next_end w5 s pos ty hp
                have hz : c = M := by
                  rw [drop_end s pos hp, show runesD ([] : Bs) = [] from rfl, List.length_nil, Nat.add_zero] at hcc
                  exact hcc
                subst hz
                clear hcc Hcc
                have hgi := grownBy_none_alloc w5 (.stringIter s pos)
                have hw5i : wr.grownBy (w5.iter s pos) none := gnone (unhide Hg5) hgi
                have hst1 := states_any p1 [x] (w5.iter s pos) ((unhide HL1).kept hgi) (((unhide HSK).none (gnone (unhide Hgx) hw5i))).tabs
                rw [one_word, graph_one, ← unhide HM, Nat.add_comm] at hst1
                have HS1 := hide hst1
                have Hw5i := hide hw5i
                clear hst1 hgi hw5i
                have hkG2 : ¬ (G : Int) < 1 + (c : Int) := by omega
                go_wp2_with (go_at_call 13; refine (num_any _ _).mono ?_; rintro e w' ⟨rfl, rfl⟩)
                refine (unhide HS1).mono ?_
                rintro e w6 ⟨rfl, hg6⟩
                have Hg6 := hide (gnone (unhide Hgx) (gnone (unhide Hw5i) hg6))
                clear hg6
                go_wp2_with fail
                refine (unhide HST _ (unhide Hg6)).mono ?_
                rintro e w7 ⟨rfl, hg7⟩
                have Hg7 := hide hg7
                clear hg7
                go_wp2_with fail
                go_roundw
                case rel => exact ⟨k + 1, by omega, by go_num, gnone (unhide Hg6) (unhide Hg7)⟩
                case measure => simp [intOf]; omega
          · exact absurd rfl h0
        · obtain rfl : k = L.length := by omega
          have HA := hide (alive_any wr ((unhide HSK).none (unhide Hgx)).tabs)
          go_wp2_with fail
          refine (unhide HA).mono ?_
          rintro e w5 ⟨rfl, hg5⟩
          go_wp2_with fail
          go_ret
          exact ⟨rfl, gnone (gnone (gnone (unhide Hg12) (unhide Hgk)) (unhide Hgx)) hg5⟩

end Go.Proofs.YtdfnngehhiociaaGreatDoor
