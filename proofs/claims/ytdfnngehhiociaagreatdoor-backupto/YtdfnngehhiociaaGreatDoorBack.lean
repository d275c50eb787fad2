import Derived.Test.YtdfnngehhiociaaGreatDoorSame
import Derived.Test.YtdfnngehhiociaaGreatDoorOwn
import Derived.Test.YtdfnngehhiociaaGreatDoorBk
namespace Go.Proofs.YtdfnngehhiociaaGreatDoor
open Go.RowKit
open Go.Proofs (encStr)

/-- What Encode says of every lexicon with these words. -/
theorem enc_same {L M : List Bs} (h : M.Perm L) (p : Nat) (w : World) (hL : IsLex w p M) (hS : Std w) :
    Calls Tryz.prog 18 #[.pointer (some ⟨p, 0, none⟩)] w fun e w' => e = .returned (encStr (textT (graphR (wordsR L)))) ∧ w.grownBy w' none := by
  have := encode_any p M w hL hS.tabs hS.pow
  rw [words_perm h] at this
  exact this

theorem dec_same {L : List Bs} (hG : Good L) (hn : L.Nodup) (w : World) (hS : Std w) :
    Calls Tryz.prog 20 #[encStr (textT (graphR (wordsR L)))] w fun e w' => ∃ q S, e = .returned (.tuple #[.pointer (some ⟨q, 0, none⟩), .int .i64 0]) ∧ IsLex w' q S ∧ S.Perm L ∧ w.grownBy w' none := by
  obtain ⟨S, hS1, hS2⟩ := decodes_text hG hn
  have := decode_any (textT (graphR (wordsR L))) w hS.tabs hS.pow hS.errs hS.size
  rw [hS1] at this
  refine this.mono ?_
  rintro e w' ⟨hg, q, rfl, hL⟩
  exact ⟨q, S, rfl, hL, hS2, hg⟩

/-! A word goes and comes. -/

theorem one_strs (w : World) (s : ByteArray) : Strs (w.alloc (.cells #[.string s] 9)) (.slice (some ⟨w.heap.size, 0, none⟩) 1 1) [s] :=
  Or.inr ⟨w.heap.size, 0, 1, rfl, fun j hj => by
    obtain rfl : j = 0 := by simp at hj; exact hj
    rw [cell_of_row _ _ _ _ 9 (0, 0) (Go.heap_alloc_new w _)]
    rfl⟩

theorem lex_without {p : Nat} {L : List Bs} {s : ByteArray} {v : Value} {w : World} (hL : IsLex w p L) (hT : Tabs w) (hv : Strs w v [s]) (hx : bs s ∈ L) (hs : s.size ≤ 281474976710656) :
    Calls Tryz.prog 21 #[.pointer (some ⟨p, 0, none⟩), v] w fun e w' => ∃ q, e = .returned (.tuple #[.pointer (some ⟨q, 0, none⟩), .int .i64 0, .int .i64 0]) ∧ IsLex w' q (L.erase (bs s)) ∧ w.grownBy w' none := by
  obtain ⟨b, h1, h2, h3⟩ := hL
  have := without_any p (some b) L [s] v w h1 h2 h3 hT hv (by simp) (fun y hy => by simp at hy; subst hy; exact hs)
  rw [show [s].map bs = [bs s] from rfl, leave_one h3 hx] at this
  refine this.mono ?_
  rintro e w' ⟨hg, ⟨_, q, he, hq⟩ | ⟨h0, _⟩⟩
  · exact ⟨q, he, hq, hg⟩
  · exact absurd rfl h0

theorem lex_with {q : Nat} {L : List Bs} {s : ByteArray} {v : Value} {w : World} (hL : IsLex w q (L.erase (bs s))) (hG : Good L) (hn : L.Nodup) (hT : Tabs w) (hv : Strs w v [s]) (hx : bs s ∈ L) (hs : s.size ≤ 281474976710656) :
    Calls Tryz.prog 22 #[.pointer (some ⟨q, 0, none⟩), v] w fun e w' => ∃ r, e = .returned (.tuple #[.pointer (some ⟨r, 0, none⟩), .int .i64 0, .int .i64 0]) ∧ IsLex w' r (L.erase (bs s) ++ [bs s]) ∧ w.grownBy w' none := by
  obtain ⟨b, h1, h2, h3⟩ := hL
  have := with_any q (some b) (L.erase (bs s)) [s] v w h1 h2 h3 hT hv (by simp) (fun y hy => by simp at hy; subst hy; exact hs)
  rw [show [s].map bs = [bs s] from rfl, come_back hG hn hx] at this
  refine this.mono ?_
  rintro e w' ⟨hg, ⟨_, r, he, hr⟩ | ⟨h0, _⟩⟩
  · exact ⟨r, he, hr, hg⟩
  · exact absurd rfl h0

theorem rank_gone {q : Nat} {L : List Bs} {s : ByteArray} {w : World} (hL : IsLex w q (L.erase (bs s))) (hn : L.Nodup) (hs : s.size ≤ 281474976710656) :
    Calls Tryz.prog 11 #[.pointer (some ⟨q, 0, none⟩), .string s] w fun e w' => e = .returned (.tuple #[.int .i64 0, .int .i64 5]) ∧ w.grownBy w' none := by
  have := rank_any q _ s w hL hs
  rw [if_neg (gone hn)] at this
  exact this

theorem sorted_same {L M : List Bs} (h : L.Perm M) : sorted L = sorted M := by
  unfold sorted
  exact mergeSort_of_perm h

theorem spoilt_wrong : wrong (bs ⟨#[115, 112, 111, 105, 108, 116]⟩) = 0 := by kernel_rfl

/-- A word's bytes are few. -/
theorem word_size {s : ByteArray} (h : wrong (bs s) = 0) : s.size ≤ 281474976710656 := by
  have h1 := wrong_len h
  have h2 : s.size = (bs s).length := (Array.length_toList (xs := s.data)).symm
  omega

theorem row_form {w : World} {base : Nat} {e : TypeId} {size : Nat} {v : Value} {n : Nat} {xs : List Value} (h : w.ownsRow base e size v n xs) :
    ∃ ad cap, v = .slice ad n cap ∧ ∀ k, k < n → ∃ g, ad = some ⟨g, 0, none⟩ ∧ base ≤ g ∧ g < w.heap.size := by
  rcases h.2 with ⟨rfl, rfl⟩ | ⟨g, cap, cur, rfl, hb, hg, _⟩
  · exact ⟨none, 0, rfl, fun k hk => by omega⟩
  · exact ⟨_, cap, rfl, fun k _ => ⟨g, rfl, hb, (Array.getElem?_eq_some_iff.1 hg).1⟩⟩

/-- A row whose cells are stored into. -/
theorem row_cell {w : World} {base : Nat} {e : TypeId} {size : Nat} {g n cap : Nat} {xs : List Value} (h : w.ownsRow base e size (.slice (some ⟨g, 0, none⟩) n cap) n xs) {j : Nat} (hj : j < n * size) :
    (∃ u, w.cell? ⟨g, j, none⟩ = some u) ∧ w.frozen? ⟨g, j, none⟩ = false := by
  obtain ⟨_, cur, hc⟩ := row_block h (show (Value.slice (some ⟨g, 0, none⟩) n cap).ownBlock = some g from rfl)
  refine ⟨?_, by simp [World.frozen?, hc]⟩
  have hx : j < xs.length := by rw [h.1]; exact hj
  exact ⟨xs[j], by rw [h.cellAt j hj]; simp [hx]⟩

set_option maxHeartbeats 1000000 in
set_option maxRecDepth 100000 in
theorem back_any (v : Value) (w : World) (hS : Std w) (hv : Script w v) : Calls Tryz.prog 6 #[v] w fun e w' => e = .returned (.bool true) ∧ w.grownBy w' none := by
  have hGr := hide (grown_any v w hS hv)
  have HSt := hide hS
  go_enter Tryz.func6, Tryz.ntmps6
  go_wp2_with fail
  refine (unhide hGr).mono ?_
  rintro e w1 ⟨p, L, rfl, hL, hg1⟩
  have hn := hL.nodup
  have hGd := hL.good
  have h40 := hGd.1
  have hS1 := (unhide HSt).none hg1
  have hTl : (textT (graphR (wordsR L))).length ≤ 20000 := text_len (sound_weight (good_sound hGd))
  have HE1 := hide (enc_same (List.Perm.refl L) p w1 hL hS1)
  have HEN := hide (fun (M : List Bs) (h : M.Perm L) => enc_same h)
  have HDE := hide (fun (W : World) (h : Std W) => dec_same hGd hn W h)
  generalize textT (graphR (wordsR L)) = T at HE1 HEN HDE hTl
  have HL := hide hL
  have HN := hide hn
  have HGd := hide hGd
  have HS1 := hide hS1
  have Hg1 := hide hg1
  clear hL hGd hGr hv hS hS1 hn hg1 HSt
  go_wp2_with fail
  refine (unhide HE1).mono ?_
  rintro e w2 ⟨rfl, hg2⟩
  have HPR := hide (prefix_row p L w2 ((unhide HL).kept hg2))
  have Hg2 := hide hg2
  clear hg2 HE1
  go_wp2_with fail
  refine (unhide HPR).mono ?_
  rintro e w3 ⟨va, rfl, hrow3, hg3⟩
  have HOW := hide (own_any va (sorted L) w3 (SRow.of (by rw [sorted_length]; exact hrow3)) (by rw [sorted_length]; exact h40))
  have Hg3 := hide (gnone (unhide Hg2) hg3)
  clear hg3 hrow3 HPR Hg2
  go_wp2_with fail
  refine (unhide HOW).mono ?_
  rintro e w4 ⟨va2, rfl, hrow4, hg4⟩
  have hg14 := gnone (unhide Hg3) hg4
  have HS4 := hide ((unhide HS1).none hg14)
  have HR4 := hide (SRow.of hrow4)
  have HD := hide (unhide HDE w4 (unhide HS4))
  have Hg14 := hide hg14
  clear hg14 hg4 hrow4 Hg3 HOW
  go_wp2_with fail
  refine (unhide HD).mono ?_
  rintro e w5 ⟨m, S, rfl, hLm, hSp, hg5⟩
  have hg15 := gnone (unhide Hg14) hg5
  have HE5 := hide (unhide HEN S hSp m w5 hLm ((unhide HS1).none hg15))
  have hTi : ¬ (20000 : Int) < (T.length : Int) := by omega
  have HLm := hide hLm
  have HSp := hide hSp
  have Hg15 := hide hg15
  have HR5 := hide ((unhide HR4).kept hg5)
  clear hg5 hg15 hLm hSp HD HR4 HS4 Hg14
  go_wp2_with (first | (go_at_call 13; refine (num_any _ _).mono ?_; rintro e w' ⟨rfl, rfl⟩))
  refine (unhide HE5).mono ?_
  rintro e w6 ⟨rfl, hg6⟩
  have hf6 := ((unhide HR5).kept hg6).form
  have HR6 := hide ((unhide HR5).kept hg6)
  have Hg16 := hide (gnone (unhide Hg15) hg6)
  have HLm6 := hide ((unhide HLm).kept hg6)
  rw [sorted_length] at hf6
  obtain ⟨ad, cap, rfl, hC⟩ := hf6
  have HC := hide hC
  clear hC hg6 HE5 HLm Hg15 HR5 HDE
  go_wp2_with fail
  go_loopw [8] (fun i wr => ∃ k : Nat, k ≤ L.length ∧ i = .int .i64 k ∧ Hid (w6.grownBy wr none)) (fun i _ => L.length - (intOf i).toNat)
  case atStart => exact ⟨0, Nat.zero_le _, rfl, grownBy_refl _ _⟩
  case round =>
    obtain ⟨k, hk, rfl, Hgk⟩ := hrel
    by_cases hlt : k < L.length
    · obtain ⟨g, rfl, hc⟩ := unhide HC k hlt
      have hck := (unhide Hgk).cell hc (by simp)
      have hmem := sorted_mem L k hlt
      generalize (sorted L).getD k [] = x at hck hmem
      obtain ⟨s, hs⟩ : ∃ s : ByteArray, s = ⟨x.toArray⟩ := ⟨_, rfl⟩
      have hbs : bs s = x := by rw [hs]
      have hcs : wr.cell? ⟨g, k, none⟩ = some (.string s) := by rw [hs]; exact hck
      rw [← hbs] at hmem
      have hsz := word_size ((unhide HGd).2 _ hmem)
      have ga := grownBy_none_alloc wr (.cells #[.string s] 9)
      have g1r := gnone (unhide Hg16) (unhide Hgk)
      have HW := hide (lex_without ((unhide HL).kept (gnone g1r ga)) ((unhide HS1).none (gnone g1r ga)).tabs (one_strs wr s) hmem hsz)
      have HM := hide hmem
      have HSZ := hide hsz
      have Hga := hide ga
      have Hg1r := hide g1r
      have hlen : (((L.erase (bs s)).length : Nat) : Int) = (L.length : Int) - 1 := by
        rw [List.length_erase_of_mem hmem]
        have := List.length_pos_of_mem hmem
        omega
      have HLE := hide hlen
      have hwrp : IntKind.i64.wrap ((L.length : Int) - 1) = (L.length : Int) - 1 := wrap_small _ (by omega) (by omega)
      clear hck hc hs hbs hmem hsz ga g1r hlen
      go_wp2_with fail
      refine (unhide HW).mono ?_
      rintro e w7 ⟨q, rfl, hLq, hg7⟩
      have hcs7 := hg7.cell ((unhide Hga).cell hcs (by simp)) (by simp)
      have hX := words_any q _ w7 hLq
      rw [unhide HLE] at hX
      have HX := hide hX
      have HLq := hide hLq
      have Hg7 := hide (gnone (unhide Hga) hg7)
      clear hcs hX hLq hg7 HW
      go_wp2_with (first
        | (go_at_call 13; refine (num_any _ _).mono ?_; rintro e w' ⟨rfl, rfl⟩)
        | (go_at_call 8; refine (unhide HX).mono ?_; rintro e w' ⟨rfl, rfl⟩))
      have ga7 := grownBy_none_alloc w' (.cells #[.string s] 9)
      have g17 := gnone (gnone (unhide Hg1r) (unhide Hg7)) ga7
      refine (lex_with ((unhide HLq).kept ga7) (unhide HGd) (unhide HN) ((unhide HS1).none g17).tabs (one_strs w' s) (unhide HM) (unhide HSZ)).mono ?_
      rintro e w8 ⟨r, rfl, hLr, hg8⟩
      have hcs8 := hg8.cell (ga7.cell hcs7 (by simp)) (by simp)
      have Hg18 := hide (gnone g17 hg8)
      have HRG := hide (rank_gone (s := s) ((unhide HLq).kept (gnone ga7 hg8)) (unhide HN) (unhide HSZ))
      have HLr := hide hLr
      have Hg8 := hide (gnone (unhide Hg7) (gnone ga7 hg8))
      clear ga7 g17 hLr hg8 hcs7 HX HLq Hg7 Hga
      go_wp2_with fail
      refine (unhide HRG).mono ?_
      rintro e w9 ⟨rfl, hg9⟩
      have hg19 := gnone (unhide Hg18) hg9
      have HEr := hide (unhide HEN _ (back_perm (unhide HM)) r w9 ((unhide HLr).kept hg9) ((unhide HS1).none hg19))
      have Hg9 := hide (gnone (unhide Hg8) hg9)
      clear hg9 hg19 HRG HLr Hg8
      go_wp2_with (first
        | (go_at_call 13; refine (num_any _ _).mono ?_; rintro e w' ⟨rfl, rfl⟩)
        | (go_at_call 18; refine (unhide HEr).mono ?_; rintro e wx ⟨rfl, hgx⟩; have Hgx := hide hgx; clear hgx))
      go_roundw
      case rel => exact ⟨k + 1, by omega, by go_num, gnone (gnone (unhide Hgk) (unhide Hg9)) (unhide Hgx)⟩
      case measure => simp [intOf]; omega
    · obtain rfl : k = L.length := by omega
      have g1r := gnone (unhide Hg16) (unhide Hgk)
      have HPm := hide (prefix_row m S wr ((unhide HLm6).kept (unhide Hgk)))
      have HRk := hide ((unhide HR6).kept (unhide Hgk))
      have Hg1r := hide g1r
      clear HC HR6 HLm6 Hg16 g1r Hgk hlt hk
      go_wp2_with fail
      refine (unhide HPm).mono ?_
      rintro e w7 ⟨vg, rfl, hrow7, hg7⟩
      have hr7 : SRow w7 vg (sorted L) := by
        rw [← sorted_same (unhide HSp)]
        exact SRow.of (by rw [sorted_length]; exact hrow7)
      have HR7 := hide ((unhide HRk).kept hg7)
      have HSA := hide (same_true _ vg (sorted L) w7 (unhide HR7) hr7 (by rw [sorted_length]; exact h40))
      have Hg17 := hide (gnone (unhide Hg1r) hg7)
      clear hr7 hrow7 hg7 HPm HRk Hg1r
      go_wp2_with fail
      refine (unhide HSA).mono ?_
      rintro e w8 ⟨rfl, hg8⟩
      have hg18 := gnone (unhide Hg17) hg8
      have HE8 := hide (unhide HEN L (List.Perm.refl L) p w8 ((unhide HL).kept hg18) ((unhide HS1).none hg18))
      have HR8 := hide ((unhide HR7).kept hg8)
      have Hg18 := hide hg18
      clear hg18 hg8 HSA HR7 Hg17
      go_wp2_with fail
      refine (unhide HE8).mono ?_
      rintro e w9 ⟨rfl, hg9⟩
      have hg19 := gnone (unhide Hg18) hg9
      have HP9 := hide (prefix_row p L w9 ((unhide HL).kept hg19))
      have HR9 := hide ((unhide HR8).kept hg9)
      have Hg19 := hide hg19
      clear hg19 hg9 HE8 HR8 Hg18
      go_wp2_with fail
      refine (unhide HP9).mono ?_
      rintro e wa ⟨vf, rfl, hrowa, hga⟩
      obtain ⟨af, cf, rfl, hform⟩ := row_form hrowa
      have HF := hide hform
      have HRA := hide (show (∃ xs, wa.ownsRow w9.heap.size 9 1 (.slice af L.length cf) L.length xs) ∧ w9.grownBy wa none from ⟨⟨_, hrowa⟩, hga⟩)
      clear hrowa hga hform HP9
      go_wp2_with fail
      go_loopw [20] (fun i wr => ∃ k : Nat, k ≤ L.length ∧ i = .int .i64 k ∧ Hid ((∃ xs, wr.ownsRow w9.heap.size 9 1 (.slice af L.length cf) L.length xs) ∧ w9.grownBy wr none)) (fun i _ => L.length - (intOf i).toNat)
      case atStart => exact ⟨0, Nat.zero_le _, rfl, HRA⟩
      case round =>
        obtain ⟨k, hk, rfl, HK⟩ := hrel
        by_cases hlt : k < L.length
        · obtain ⟨g, rfl, hb, _⟩ := unhide HF k hlt
          obtain ⟨⟨xs, hrow⟩, hgr⟩ := unhide HK
          obtain ⟨⟨u, hu⟩, hfz⟩ := row_cell hrow (j := k) (by omega)
          have HO := hide hrow
          have HG := hide hgr
          have HB := hide hb
          clear hrow hgr hb
          go_wp2_with fail
          go_roundw
          case rel => exact ⟨k + 1, by omega, by go_num, ⟨_, row_set (unhide HO) k _⟩, gnew (unhide HG) (grown_set _ _ _ _) (fun j e => by cases e; exact unhide HB)⟩
          case measure => simp [intOf]; omega
        · obtain rfl : k = L.length := by omega
          have hgr := (unhide HK).2
          have hg1 := gnone (unhide Hg19) hgr
          have HPb := hide (prefix_row p L wr ((unhide HL).kept hg1))
          have HRb := hide ((unhide HR9).kept hgr)
          have Hg1b := hide hg1
          clear hgr hg1 HR9 HK HF HRA Hg19 hlt hk
          go_wp2_with fail
          refine (unhide HPb).mono ?_
          rintro e wb ⟨vl, rfl, hrowb, hgb⟩
          have hRb := (unhide HRb).kept hgb
          have HSA := hide (same_true _ vl (sorted L) wb hRb (SRow.of (by rw [sorted_length]; exact hrowb)) (by rw [sorted_length]; exact h40))
          have Hg1c := hide (gnone (unhide Hg1b) hgb)
          clear hRb HRb Hg1b hgb hrowb HPb
          go_wp2_with fail
          refine (unhide HSA).mono ?_
          rintro e wc ⟨rfl, hgc⟩
          have hg1c := gnone (unhide Hg1c) hgc
          have HN1 := hide (near_row p 3 9 L ⟨#[115, 112, 111, 105, 108, 116]⟩ wc ((unhide HL).kept hg1c) ((unhide HS1).none hg1c).tabs spoilt_wrong (by decide) (by decide))
          have HN2 := hide (fun W (h : wc.grownBy W none) => near_row p 3 9 L ⟨#[115, 112, 111, 105, 108, 116]⟩ W ((unhide HL).kept (gnone hg1c h)) ((unhide HS1).none (gnone hg1c h)).tabs spoilt_wrong (by decide) (by decide))
          have HNl : (nearL L (bs ⟨#[115, 112, 111, 105, 108, 116]⟩) 3 9).length ≤ 9 := by unfold nearL; rw [List.length_take]; omega
          generalize nearL L (bs ⟨#[115, 112, 111, 105, 108, 116]⟩) 3 9 = M at HN1 HN2 HNl
          have Hg1d := hide hg1c
          clear hg1c hgc HSA Hg1c
          go_wp2_with fail
          refine (unhide HN1).mono ?_
          rintro e wd ⟨v1, rfl, hrow1, hgd⟩
          have HN3 := hide (unhide HN2 wd hgd)
          have HO1 := hide hrow1
          have Hgd := hide hgd
          clear hrow1 hgd HN1 HN2
          go_wp2_with fail
          refine (unhide HN3).mono ?_
          rintro e we ⟨v2, rfl, hrow2, hge⟩
          obtain ⟨a1, c1, rfl, hform1⟩ := row_form (unhide HO1)
          obtain ⟨a2, c2, rfl, hform2⟩ := row_form hrow2
          have HF1 := hide hform1
          have HF2 := hide hform2
          have HS3 : Hid ((∃ xs, we.ownsRow wc.heap.size 38 2 (.slice a1 M.length c1) M.length xs) ∧ we.ownsRow wd.heap.size 38 2 (.slice a2 M.length c2) M.length (M.flatMap encM) ∧ wc.grownBy we none) :=
            ⟨⟨_, row_off (unhide HO1) hge (by cases a1 <;> simp [Value.ownBlock])⟩, hrow2, gnone (unhide Hgd) hge⟩
          clear hrow2 hge hform1 hform2 HO1 Hgd HN3
          go_wp2_with fail
          go_loopw [27] (fun i wr => ∃ k : Nat, k ≤ M.length ∧ i = .int .i64 k ∧ Hid ((∃ xs, wr.ownsRow wc.heap.size 38 2 (.slice a1 M.length c1) M.length xs) ∧ wr.ownsRow wd.heap.size 38 2 (.slice a2 M.length c2) M.length (M.flatMap encM) ∧ wc.grownBy wr none)) (fun i _ => M.length - (intOf i).toNat)
          case atStart => exact ⟨0, Nat.zero_le _, rfl, HS3⟩
          case round =>
            obtain ⟨k, hk, rfl, HK⟩ := hrel
            by_cases hlt : k < M.length
            · obtain ⟨g1, rfl, hb1, hs1⟩ := unhide HF1 k hlt
              obtain ⟨g2, rfl, hb2, _⟩ := unhide HF2 k hlt
              obtain ⟨⟨xs, hrow1⟩, hrow2, hgr⟩ := unhide HK
              obtain ⟨⟨u, hu⟩, hfz⟩ := row_cell hrow1 (j := k * 2 + 1) (by omega)
              have hne : ¬ g2 = g1 := by omega
              have gs := grown_set wr g1 (k * 2 + 1) (.int .i64 (-1))
              have hr1 := row_set hrow1 (k * 2 + 1) (.int .i64 (-1))
              have hr2 := row_off hrow2 gs (Or.inr (by simpa [Value.ownBlock] using hne))
              have hc2 : (wr.setCell ⟨g1, k * 2 + 1, none⟩ (.int .i64 (-1))).cell? ⟨g2, k * 2 + 1, none⟩ = some (.int .i64 ((M.getD k ([], 0)).2 : Nat)) := by
                rw [hr2.cellAt _ (by omega)]
                exact (flat_at M k hlt).2
              have hn1 : ((((M.getD k ([], 0)).2 : Nat) : Int) == -1) = false := by
                simp only [beq_eq_false_iff_ne]
                omega
              have HK2 : Hid ((∃ xs, (wr.setCell ⟨g1, k * 2 + 1, none⟩ (.int .i64 (-1))).ownsRow wc.heap.size 38 2 (.slice (some ⟨g1, 0, none⟩) M.length c1) M.length xs) ∧ (wr.setCell ⟨g1, k * 2 + 1, none⟩ (.int .i64 (-1))).ownsRow wd.heap.size 38 2 (.slice (some ⟨g2, 0, none⟩) M.length c2) M.length (M.flatMap encM) ∧ wc.grownBy (wr.setCell ⟨g1, k * 2 + 1, none⟩ (.int .i64 (-1))) none) :=
                ⟨⟨_, hr1⟩, hr2, gnew hgr gs (fun j e => by cases e; exact hb1)⟩
              clear hr1 hr2 gs hgr hrow1 hrow2 hne hb1 hb2 hs1 HK
              go_wp2_with fail
              go_roundw
              case rel => exact ⟨k + 1, by omega, by go_num, HK2⟩
              case measure => simp [intOf]; omega
            · obtain rfl : k = M.length := by omega
              have hgz := gnone (unhide Hg1d) (unhide HK).2.2
              have HA := hide (alive_any wr ((unhide HS1).none hgz).tabs)
              have Hgz := hide hgz
              clear hgz
              go_wp2_with fail
              refine (unhide HA).mono ?_
              rintro e wz ⟨rfl, hz⟩
              go_wp2_with fail
              go_ret
              exact ⟨rfl, gnone (gnone (unhide Hg1) (unhide Hgz)) hz⟩

end Go.Proofs.YtdfnngehhiociaaGreatDoor
