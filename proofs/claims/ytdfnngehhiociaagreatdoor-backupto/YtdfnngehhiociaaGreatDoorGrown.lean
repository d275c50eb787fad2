import Derived.Test.YtdfnngehhiociaaGreatDoorAlive
import Derived.Test.YtdfnngehhiociaaGreatDoorTrees
namespace Go.Proofs.YtdfnngehhiociaaGreatDoor
open Go.RowKit Go.Maps Go.WideMaps Go.Sort
open Go.Proofs (encStr)

/-- A step lies there. -/
def OpAt (w : World) (g o : Nat) : Prop := ∃ (kind a b : Int) (s t : ByteArray), w.cell? ⟨g, o, none⟩ = some (.int .i64 kind) ∧ w.cell? ⟨g, o + 1, none⟩ = some (.int .i64 a) ∧ w.cell? ⟨g, o + 2, none⟩ = some (.int .i64 b) ∧
  w.cell? ⟨g, o + 3, none⟩ = some (.string s) ∧ w.cell? ⟨g, o + 4, none⟩ = some (.string t) ∧ s.size ≤ 1048576 ∧ t.size ≤ maxLen

/-- A script lies there. -/
def Script (w : World) (v : Value) : Prop := ∃ (n cap : Nat) (ad : Option Addr), v = .slice ad n cap ∧ n ≤ 1048576 ∧ (0 < n → ∃ g off, ad = some ⟨g, off, none⟩ ∧ ∀ k, k < n → OpAt w g (off + k * 5))

/-- What the library's variables hold. -/
structure Std (w : World) : Prop where
  tabs : Tabs w
  pow : Pow w
  errs : Errs w
  size : 5 < w.heap.size

theorem Std.none {w w' : World} (h : Std w) (hg : w.grownBy w' Option.none) : Std w' := ⟨h.tabs.none hg, h.pow.later hg, h.errs.later hg, Nat.lt_of_lt_of_le h.size hg.size⟩

theorem decode_bytes (t : ByteArray) (w : World) (h : Std w) : Calls Tryz.prog 20 #[.string t] w (DecPost w (decodes (bs t))) := decode_any (bs t) w h.tabs h.pow h.errs h.size

set_option maxHeartbeats 1000000 in
set_option maxRecDepth 100000 in
theorem grown_some (n cap g off : Nat) (w : World) (hS : Std w) (hn : n ≤ 1048576) (hO : ∀ k, k < n → OpAt w g (off + k * 5)) :
    Calls Tryz.prog 7 #[.slice (some ⟨g, off, none⟩) n cap] w fun e w' => ∃ p L, e = .returned (.pointer (some ⟨p, 0, none⟩)) ∧ IsLex w' p L ∧ w.grownBy w' none := by
  have hT := hS.tabs
  have hB := build_any [] (.slice none 0 0) w hT (Or.inl ⟨rfl, rfl⟩) (by decide) (by simp)
  rw [show withR [] (([] : List ByteArray).map bs) = ([], 0, 0) from rfl] at hB
  have HB := hide hB
  clear hB
  go_enter Tryz.func7, Tryz.ntmps7
  go_wp2_with fail
  refine (unhide HB).mono ?_
  rintro e w1 ⟨hg1, ⟨h0, p, rfl, hL⟩ | ⟨h0, rfl⟩⟩
  · clear h0
    go_wp2
    go_loopw [3, 6] (fun l i wr => ∃ (k p : Nat) (L : List Bs), k ≤ n ∧ i = .int .i64 k ∧ l = .pointer (some ⟨p, 0, none⟩) ∧ IsLex wr p L ∧ w.grownBy wr none) (fun _ i _ => n - (intOf i).toNat)
    case atStart => exact ⟨0, p, [], Nat.zero_le _, rfl, rfl, hL, hg1⟩
    case round =>
      clear hL hg1 HB
      obtain ⟨k, p, L, hk, rfl, rfl, hL, hg⟩ := hrel
      by_cases hlt : k < n
      · have hki : (k : Int) < (n : Int) := by omega
        have hk60 : (k : Int) < 1152921504606846976 := by omega
        obtain ⟨kind, ka, kb, s, t, c0, c1, c2, c3, c4, hs, ht⟩ := hO k hlt
        have d0 := cell_kept c0 hg (by simp)
        have d1 := cell_kept c1 hg (by simp)
        have d2 := cell_kept c2 hg (by simp)
        have d3 := cell_kept c3 hg (by simp)
        have d4 := cell_kept c4 hg (by simp)
        clear c0 c1 c2 c3 c4
        by_cases hk1 : kind = 1
        · subst hk1
          have hga := gnone hg (grownBy_none_alloc wr (.cells #[.int .i64 1, .int .i64 ka, .int .i64 kb, .string s, .string t] 51))
          have HL := hide (hL.kept (grownBy_none_alloc wr (.cells #[.int .i64 1, .int .i64 ka, .int .i64 kb, .string s, .string t] 51)))
          have HG := hide hga
          clear hga hL hg
          go_wp2_with fail
          refine (words15_any s _ hs).mono ?_
          rintro e w2 ⟨v, ws, rfl, hstr, hwl, hwsz, hg2⟩
          have hgw2 := gnone (unhide HG) hg2
          have hLw2 := (unhide HL).kept hg2
          go_wp2_with fail
          refine (build_any ws v w2 (hT.none hgw2) hstr (by omega) (fun x hx => by have := hwsz x hx; omega)).mono ?_
          rintro e w3 ⟨hg3, ⟨h0, p3, rfl, hL3⟩ | ⟨h0, rfl⟩⟩
          · have HL3 := hide hL3
            clear hL3 h0
            go_wp2
            go_roundw
            case rel => exact ⟨k + 1, p3, _, by omega, by go_num, rfl, unhide HL3, gnone hgw2 hg3⟩
            case measure => simp [intOf]; omega
          · have HL3 := hide (hLw2.kept hg3)
            clear hLw2 h0
            go_wp2
            go_roundw
            case rel => exact ⟨k + 1, p, L, by omega, by go_num, rfl, unhide HL3, gnone hgw2 hg3⟩
            case measure => simp [intOf]; omega
        · by_cases hk2 : kind = 2
          · subst hk2
            have hga := gnone hg (grownBy_none_alloc wr (.cells #[.int .i64 2, .int .i64 ka, .int .i64 kb, .string s, .string t] 51))
            have HL := hide (hL.kept (grownBy_none_alloc wr (.cells #[.int .i64 2, .int .i64 ka, .int .i64 kb, .string s, .string t] 51)))
            have HG := hide hga
            clear hga hL hg
            go_wp2_with fail
            refine (words15_any s _ hs).mono ?_
            rintro e w2 ⟨v, ws, rfl, hstr, hwl, hwsz, hg2⟩
            have hgw2 := gnone (unhide HG) hg2
            have hLw2 := (unhide HL).kept hg2
            obtain ⟨b, hpb, hSb, hGb⟩ := hLw2
            have hLw2 : IsLex w2 p L := ⟨b, hpb, hSb, hGb⟩
            go_wp2_with fail
            refine (with_any p (some b) L ws v w2 hpb hSb hGb (hT.none hgw2) hstr (by omega) (fun x hx => by have := hwsz x hx; omega)).mono ?_
            rintro e w3 ⟨hg3, ⟨h0, p3, rfl, hL3⟩ | ⟨h0, rfl⟩⟩
            · have HL3 := hide hL3
              clear hL3 h0
              go_wp2
              go_roundw
              case rel => exact ⟨k + 1, p3, _, by omega, by go_num, rfl, unhide HL3, gnone hgw2 hg3⟩
              case measure => simp [intOf]; omega
            · have HL3 := hide (hLw2.kept hg3)
              clear hLw2 h0
              go_wp2
              go_roundw
              case rel => exact ⟨k + 1, p, L, by omega, by go_num, rfl, unhide HL3, gnone hgw2 hg3⟩
              case measure => simp [intOf]; omega
          · by_cases hk3 : kind = 3
            · subst hk3
              have hga := gnone hg (grownBy_none_alloc wr (.cells #[.int .i64 3, .int .i64 ka, .int .i64 kb, .string s, .string t] 51))
              have HL := hide (hL.kept (grownBy_none_alloc wr (.cells #[.int .i64 3, .int .i64 ka, .int .i64 kb, .string s, .string t] 51)))
              have HG := hide hga
              clear hga hL hg
              go_wp2_with fail
              refine (words15_any s _ hs).mono ?_
              rintro e w2 ⟨v, ws, rfl, hstr, hwl, hwsz, hg2⟩
              have hgw2 := gnone (unhide HG) hg2
              have hLw2 := (unhide HL).kept hg2
              obtain ⟨b, hpb, hSb, hGb⟩ := hLw2
              have hLw2 : IsLex w2 p L := ⟨b, hpb, hSb, hGb⟩
              go_wp2_with fail
              refine (without_any p (some b) L ws v w2 hpb hSb hGb (hT.none hgw2) hstr (by omega) (fun x hx => by have := hwsz x hx; omega)).mono ?_
              rintro e w3 ⟨hg3, ⟨h0, p3, rfl, hL3⟩ | ⟨h0, rfl⟩⟩
              · have HL3 := hide hL3
                clear hL3 h0
                go_wp2
                go_roundw
                case rel => exact ⟨k + 1, p3, _, by omega, by go_num, rfl, unhide HL3, gnone hgw2 hg3⟩
                case measure => simp [intOf]; omega
              · have HL3 := hide (hLw2.kept hg3)
                clear hLw2 h0
                go_wp2
                go_roundw
                case rel => exact ⟨k + 1, p, L, by omega, by go_num, rfl, unhide HL3, gnone hgw2 hg3⟩
                case measure => simp [intOf]; omega
            · by_cases hk5 : kind = 5
              · subst hk5
                have hga := gnone hg (grownBy_none_alloc wr (.cells #[.int .i64 5, .int .i64 ka, .int .i64 kb, .string s, .string t] 51))
                have HL := hide (hL.kept (grownBy_none_alloc wr (.cells #[.int .i64 5, .int .i64 ka, .int .i64 kb, .string s, .string t] 51)))
                have HG := hide hga
                clear hga hL hg
                have HD := hide (decode_bytes t _ (hS.none (unhide HG)))
                generalize decodes (bs t) = R at HD
                go_wp2_with fail
                refine (unhide HD).mono ?_
                cases R with
                | none =>
                  rintro e w2 ⟨hg2, c, rfl, hc⟩
                  have HL2 := hide ((unhide HL).kept hg2)
                  have Hg2 := hide hg2
                  clear hg2 hc
                  go_wp2
                  go_roundw
                  case rel => exact ⟨k + 1, p, L, by omega, by go_num, rfl, unhide HL2, gnone (unhide HG) (unhide Hg2)⟩
                  case measure => simp [intOf]; omega
                | some S =>
                  rintro e w2 ⟨hg2, p2, rfl, hL2⟩
                  have HL2 := hide hL2
                  have Hg2 := hide hg2
                  clear hg2 hL2
                  go_wp2
                  go_roundw
                  case rel => exact ⟨k + 1, p2, S, by omega, by go_num, rfl, unhide HL2, gnone (unhide HG) (unhide Hg2)⟩
                  case measure => simp [intOf]; omega
              · have hga := gnone hg (grownBy_none_alloc wr (.cells #[.int .i64 kind, .int .i64 ka, .int .i64 kb, .string s, .string t] 51))
                have HL := hide (hL.kept (grownBy_none_alloc wr (.cells #[.int .i64 kind, .int .i64 ka, .int .i64 kb, .string s, .string t] 51)))
                have HG := hide hga
                clear hga hL hg
                have e1 : (kind == 1) = false := by simpa using hk1
                have e2 : (kind == 2) = false := by simpa using hk2
                have e3 : (kind == 3) = false := by simpa using hk3
                have e5 : (kind == 5) = false := by simpa using hk5
                clear hk1 hk2 hk3 hk5
                go_wp2
                go_roundw
                case rel => exact ⟨k + 1, p, L, by omega, by go_num, rfl, unhide HL, unhide HG⟩
                case measure => simp [intOf]; omega
      · obtain rfl : k = n := by omega
        go_wp2
        go_ret
        exact ⟨p, L, rfl, hL, hg⟩
  · exact absurd rfl h0

end Go.Proofs.YtdfnngehhiociaaGreatDoor
