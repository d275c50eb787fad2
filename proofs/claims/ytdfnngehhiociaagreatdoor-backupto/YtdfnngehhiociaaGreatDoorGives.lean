import Derived.Test.YtdfnngehhiociaaGreatDoorTexts
import Derived.Shelf.Strings.SlTrimAscii
import Derived.WalkSmall
import Derived.Lib.MapLaws
namespace Go.Proofs.YtdfnngehhiociaaGreatDoor
open Go.RowKit
open Go.Proofs (encStr)

/-- What giveUp throws. -/
def Up : List PanicEntry := [{ v := .iface 28 (.int .i64 7), recovered := false }]

set_option maxHeartbeats 400000 in
set_option maxRecDepth 100000 in
theorem give_up (w : World) : Calls Tryz.prog 38 #[] w fun e w' => e = .panicked Up ∧ w' = w := by
  go_enter Tryz.func38, Tryz.ntmps38
  go_wp2
  exact ⟨rfl, rfl, rfl⟩

set_option maxHeartbeats 400000 in
set_option maxRecDepth 100000 in
theorem take_ok (p : Nat) (piece l m : Bs) (w : World) (c0 : w.cell? ⟨p, 0, none⟩ = some (encStr l)) (f0 : w.frozen? ⟨p, 0, none⟩ = false) (h : takeP piece l = some m) :
    Calls Tryz.prog 83 #[.pointer (some ⟨p, 0, none⟩), encStr piece] w fun e w' => e = .returned (.tuple #[]) ∧ w' = w.setCell ⟨p, 0, none⟩ (encStr m) := by
  have HC := hide (Tryz.strings_CutPrefix ⟨l.toArray⟩ ⟨piece.toArray⟩ w)
  unfold takeP at h
  have hp : Lib.hasPrefix l piece = true := by
    cases e : Lib.hasPrefix l piece with
    | true => rfl
    | false => rw [e] at h; cases h
  rw [hp] at h
  have hm : Lib.trimPrefix l piece = m := by simpa using h
  go_enter Tryz.func83, Tryz.ntmps83
  go_wp2_with fail
  refine (unhide HC).mono ?_
  rintro e w' ⟨rfl, rfl⟩
  simp only [hp, hm]
  go_wp2_with fail
  go_end0
  exact ⟨rfl, rfl⟩

set_option maxHeartbeats 400000 in
set_option maxRecDepth 100000 in
theorem take_fail (p : Nat) (piece l : Bs) (w : World) (c0 : w.cell? ⟨p, 0, none⟩ = some (encStr l)) (h : takeP piece l = none) :
    Calls Tryz.prog 83 #[.pointer (some ⟨p, 0, none⟩), encStr piece] w fun e w' => e = .panicked Up ∧ w' = w := by
  have HC := hide (Tryz.strings_CutPrefix ⟨l.toArray⟩ ⟨piece.toArray⟩ w)
  have HU := hide (give_up w)
  unfold takeP at h
  have hp : Lib.hasPrefix l piece = false := by
    cases e : Lib.hasPrefix l piece with
    | false => rfl
    | true => rw [e] at h; cases h
  go_enter Tryz.func83, Tryz.ntmps83
  go_wp2_with fail
  refine (unhide HC).mono ?_
  rintro e w' ⟨rfl, rfl⟩
  simp only [hp]
  go_wp2_with fail
  refine (unhide HU).mono ?_
  rintro e w' ⟨rfl, rfl⟩
  exact ⟨rfl, rfl, rfl⟩

set_option maxHeartbeats 400000 in
set_option maxRecDepth 100000 in
theorem next_any (p : Nat) (l : Bs) (w : World) (c0 : w.cell? ⟨p, 0, none⟩ = some (encStr l)) :
    Calls Tryz.prog 86 #[.pointer (some ⟨p, 0, none⟩)] w fun e w' => e = .returned (.int .i64 (nextP l : Nat)) ∧ w' = w := by
  have HC := hide (Tryz.strings_HasPrefix ⟨l.toArray⟩ ⟨#[32]⟩ w)
  have hh : Lib.hasPrefix (⟨l.toArray⟩ : ByteArray).data.toList (⟨#[32]⟩ : ByteArray).data.toList = Lib.hasPrefix l [32] := rfl
  rw [hh] at HC
  unfold nextP
  cases hp : Lib.hasPrefix l [32]
  all_goals
    rw [hp] at HC
    go_enter Tryz.func86, Tryz.ntmps86
    go_wp2_with fail
    refine (unhide HC).mono ?_
    rintro e w' ⟨rfl, rfl⟩
    go_wp2_with fail
    go_ret
    exact ⟨rfl, rfl⟩

set_option maxHeartbeats 400000 in
set_option maxRecDepth 100000 in
theorem mark_ok (p : Nat) (l m : Bs) (b : Bool) (w : World) (c0 : w.cell? ⟨p, 0, none⟩ = some (encStr l)) (f0 : w.frozen? ⟨p, 0, none⟩ = false) (h : markP l = some (b, m)) :
    Calls Tryz.prog 85 #[.pointer (some ⟨p, 0, none⟩)] w fun e w' => e = .returned (.bool b) ∧ w' = w.setCell ⟨p, 0, none⟩ (encStr m) := by
  have HC := hide (Tryz.strings_HasPrefix ⟨l.toArray⟩ ⟨#[33]⟩ w)
  have hh : Lib.hasPrefix (⟨l.toArray⟩ : ByteArray).data.toList (⟨#[33]⟩ : ByteArray).data.toList = Lib.hasPrefix l [33] := rfl
  rw [hh] at HC
  unfold markP at h
  cases hp : Lib.hasPrefix l [33] with
  | true =>
    rw [hp] at h HC
    have hb : true = b ∧ Lib.trimPrefix l [33] = m := by simpa using h
    obtain ⟨rfl, hm⟩ := hb
    have HT := hide (take_ok p [33] l m w c0 f0 (by unfold takeP; rw [hp, if_pos rfl, hm]))
    go_enter Tryz.func85, Tryz.ntmps85
    go_wp2_with fail
    refine (unhide HC).mono ?_
    rintro e w' ⟨rfl, rfl⟩
    go_wp2_with fail
    refine (unhide HT).mono ?_
    rintro e w' ⟨rfl, rfl⟩
    go_wp2_with fail
    go_ret
    exact ⟨rfl, rfl⟩
  | false =>
    rw [hp] at h HC
    rw [if_neg (by decide)] at h
    cases ht : takeP [46] l with
    | none => rw [ht] at h; cases h
    | some k =>
      rw [ht] at h
      have hb : false = b ∧ k = m := by simpa using h
      obtain ⟨rfl, rfl⟩ := hb
      have HT := hide (take_ok p [46] l k w c0 f0 ht)
      go_enter Tryz.func85, Tryz.ntmps85
      go_wp2_with fail
      refine (unhide HC).mono ?_
      rintro e w' ⟨rfl, rfl⟩
      go_wp2_with fail
      refine (unhide HT).mono ?_
      rintro e w' ⟨rfl, rfl⟩
      go_wp2_with fail
      go_ret
      exact ⟨rfl, rfl⟩

set_option maxHeartbeats 400000 in
set_option maxRecDepth 100000 in
theorem mark_fail (p : Nat) (l : Bs) (w : World) (c0 : w.cell? ⟨p, 0, none⟩ = some (encStr l)) (h : markP l = none) :
    Calls Tryz.prog 85 #[.pointer (some ⟨p, 0, none⟩)] w fun e w' => e = .panicked Up ∧ w' = w := by
  have HC := hide (Tryz.strings_HasPrefix ⟨l.toArray⟩ ⟨#[33]⟩ w)
  have hh : Lib.hasPrefix (⟨l.toArray⟩ : ByteArray).data.toList (⟨#[33]⟩ : ByteArray).data.toList = Lib.hasPrefix l [33] := rfl
  rw [hh] at HC
  unfold markP at h
  cases hp : Lib.hasPrefix l [33] with
  | true => rw [hp] at h; cases h
  | false =>
    rw [hp] at h HC
    rw [if_neg (by decide)] at h
    cases ht : takeP [46] l with
    | some k => rw [ht] at h; cases h
    | none =>
      have HT := hide (take_fail p [46] l w c0 ht)
      go_enter Tryz.func85, Tryz.ntmps85
      go_wp2_with fail
      refine (unhide HC).mono ?_
      rintro e w' ⟨rfl, rfl⟩
      go_wp2_with fail
      refine (unhide HT).mono ?_
      rintro e w' ⟨rfl, rfl⟩
      exact ⟨rfl, rfl, rfl⟩

end Go.Proofs.YtdfnngehhiociaaGreatDoor

namespace Go.Proofs.YtdfnngehhiociaaGreatDoor
open Go.RowKit
open Go.Proofs (encStr)

theorem bytes_drop (l : Bs) (k : Nat) : (⟨l.toArray⟩ : ByteArray).extract k (⟨l.toArray⟩ : ByteArray).size = ⟨(l.drop k).toArray⟩ := by
  apply ByteArray.ext
  rw [ByteArray.data_extract]
  show (l.toArray.extract k l.toArray.size) = (l.drop k).toArray
  apply Array.ext'
  simp
  exact List.take_of_length_le (by rw [List.length_drop]; omega)
theorem bytes_take (l : Bs) (k : Nat) : (⟨l.toArray⟩ : ByteArray).extract 0 k = ⟨(l.take k).toArray⟩ := by
  apply ByteArray.ext
  rw [ByteArray.data_extract]
  show (l.toArray.extract 0 k) = (l.take k).toArray
  apply Array.ext'
  simp

theorem set_later {w W : World} {p : Nat} {v : Value} (hg : w.grownBy W none) : w.grownBy (W.setCell ⟨p, 0, none⟩ v) (some p) :=
  gtrans (row := some p) ⟨hg.os, hg.tape, hg.output, hg.size, fun k hk _ => hg.block k hk (by simp)⟩ (grown_set _ _ _ _)

theorem decode_go {l : Bs} (h : l ≠ []) : Lib.decodeGo ⟨l.toArray⟩ = Lib.decodeL l := by
  unfold Lib.decodeGo
  rw [if_neg]
  · rfl
  · show ¬ l.toArray.size = 0
    rw [List.size_toArray]
    have := List.length_pos_iff.2 h
    omega

set_option maxHeartbeats 400000 in
set_option maxRecDepth 100000 in
theorem rune_ok (p : Nat) (l m : Bs) (r : Int) (w : World) (c0 : w.cell? ⟨p, 0, none⟩ = some (encStr l)) (f0 : w.frozen? ⟨p, 0, none⟩ = false) (hT : Tabs w) (h : runeP l = some (r, m)) :
    Calls Tryz.prog 87 #[.pointer (some ⟨p, 0, none⟩)] w fun e w' => e = .returned (.int .i32 r) ∧ ∃ W, w.grownBy W none ∧ w' = W.setCell ⟨p, 0, none⟩ (encStr m) := by
  unfold runeP at h
  by_cases hne : l = []
  · rw [if_pos hne] at h; cases h
  rw [if_neg hne] at h
  by_cases hbad : (Lib.decodeL l).1 = 65533 ∧ (Lib.decodeL l).2 = 1
  · rw [if_pos hbad] at h; cases h
  rw [if_neg hbad] at h
  have hw := Lib.decodeL_width l
  have hwl := Lib.decodeL_le l hne
  have hlp := List.length_pos_iff.2 hne
  have HC := hide (Tryz.utf8_DecodeRuneInString ⟨l.toArray⟩ w hT)
  rw [decode_go hne] at HC
  have hlt := lt_of_cell c0
  generalize Lib.decodeL l = d at h hbad hw hwl HC
  obtain ⟨x, k⟩ := d
  simp only at h hbad hw hwl HC
  have he : (x : Int) = r ∧ l.drop k = m := by simpa using h
  obtain ⟨rfl, rfl⟩ := he
  have hdr := bytes_drop l k
  have hsz : (⟨l.toArray⟩ : ByteArray).size = l.length := List.size_toArray
  have HF := hide f0
  go_enter Tryz.func87, Tryz.ntmps87
  go_wp2_with fail
  refine (unhide HC).mono ?_
  rintro e w1 ⟨rfl, hb⟩
  have hg1 := below_grownBy hb none
  have c1 := hg1.cell c0 (by simp)
  have f1 : w1.frozen? ⟨p, 0, none⟩ = false := (World.frozen?_of_block (hg1.block p hlt (by simp))).trans f0
  have hb1 : (k : Int) ≤ (l.length : Int) := by omega
  rw [hsz] at hdr
  have hres : ∃ W, w.grownBy W none ∧ w1.setCell ⟨p, 0, none⟩ (.string ((⟨l.toArray⟩ : ByteArray).extract k l.length)) = W.setCell ⟨p, 0, none⟩ (encStr (l.drop k)) := ⟨w1, hg1, by rw [hdr]⟩
  have HR := hide hres
  clear hdr hres
  by_cases hx : (x : Int) = 65533
  · have hk : ¬ (k : Int) ≤ 1 := by omega
    go_wp2_with fail
    go_ret
    exact ⟨by rw [hx]; rfl, unhide HR⟩
  · go_wp2_with fail
    go_ret
    exact ⟨rfl, unhide HR⟩

set_option maxHeartbeats 400000 in
set_option maxRecDepth 100000 in
theorem rune_fail (p : Nat) (l : Bs) (w : World) (c0 : w.cell? ⟨p, 0, none⟩ = some (encStr l)) (hT : Tabs w) (h : runeP l = none) :
    Calls Tryz.prog 87 #[.pointer (some ⟨p, 0, none⟩)] w fun e w' => e = .panicked Up ∧ w.grownBy w' none := by
  have hd : ∃ k : Nat, Lib.decodeGo ⟨l.toArray⟩ = (65533, k) ∧ k ≤ 1 := by
    unfold runeP at h
    by_cases hne : l = []
    · subst hne
      exact ⟨0, rfl, by omega⟩
    · rw [if_neg hne] at h
      by_cases hbad : (Lib.decodeL l).1 = 65533 ∧ (Lib.decodeL l).2 = 1
      · exact ⟨1, by rw [decode_go hne, ← hbad.1, ← hbad.2], Nat.le_refl _⟩
      · rw [if_neg hbad] at h; cases h
  obtain ⟨k, hd, hk⟩ := hd
  have HC := hide (Tryz.utf8_DecodeRuneInString ⟨l.toArray⟩ w hT)
  rw [hd] at HC
  have hki : (k : Int) ≤ 1 := by omega
  go_enter Tryz.func87, Tryz.ntmps87
  go_wp2_with fail
  refine (unhide HC).mono ?_
  rintro e w1 ⟨rfl, hb⟩
  have HU := hide (give_up w1)
  go_wp2_with fail
  refine (unhide HU).mono ?_
  rintro e w2 ⟨rfl, rfl⟩
  exact ⟨rfl, rfl, below_grownBy hb none⟩

/-! Numbers. -/

/-- What strconv's errors point to. -/
def Errs (w : World) : Prop := (∃ ev, w.cell? ⟨4, 0, none⟩ = some ev ∧ (ev = .nilIface ∨ ∃ te pe, ev = .iface te pe)) ∧ ∃ ev, w.cell? ⟨5, 0, none⟩ = some ev ∧ (ev = .nilIface ∨ ∃ te pe, ev = .iface te pe)

theorem Errs.later {w w' : World} (h : Errs w) (hg : w.grownBy w' none) : Errs w' := by
  obtain ⟨⟨e1, h1, h2⟩, e2, h3, h4⟩ := h
  exact ⟨⟨e1, hg.cell h1 (by simp), h2⟩, e2, hg.cell h3 (by simp), h4⟩

theorem trim_call (l : Bs) (w : World) : Calls Tryz.prog 110 #[encStr l, .string ⟨#[48, 49, 50, 51, 52, 53, 54, 55, 56, 57]⟩] w fun e w' => e = .returned (encStr (Lib.trimLeftS l digitsL)) ∧ w.grownBy w' none := by
  refine (Any.strings_TrimLeft_laid Tryz.lays161 (by kernel_rfl) ⟨l.toArray⟩ ⟨#[48, 49, 50, 51, 52, 53, 54, 55, 56, 57]⟩ w (by decide) (ascii_of_all (by decide))).mono ?_
  rintro e w' ⟨rfl, hb⟩
  exact ⟨rfl, below_grownBy hb none⟩

theorem bytes_grown (w : World) (e : TypeId) (s : ByteArray) : w.grownBy (Lib.bytesWorld w e s) none := below_grownBy (Lib.bytesWorld_below w e s) none

theorem grown_or {w w' : World} {e : TypeId} (h : w' = w ∨ ∃ t, w' = Lib.bytesWorld w e t) : w.grownBy w' none := by
  rcases h with rfl | ⟨t, rfl⟩
  · exact grownBy_refl _ _
  · exact bytes_grown _ _ _

theorem atoi_pos {l : Bs} {v : Int} (hd : ∀ c ∈ l, c ∈ digitsL) (h : Lib.atoiAll l = .ok v) : 0 ≤ v := by
  cases l with
  | nil => cases h
  | cons c r =>
    have hc := hd c (List.mem_cons_self ..)
    have hne : ¬ c.toNat = 45 := by
      intro e
      simp [digitsL] at hc
      rcases hc with h | h | h | h | h | h | h | h | h | h <;> (subst h; revert e; decide)
    unfold Lib.atoiAll at h
    simp only [hne, not_false_eq_true, true_and, false_and, if_false, or_false] at h
    split at h
    · cases h
    · cases h
    · split at h
      · cases h
      · injection h with h
        omega

set_option maxHeartbeats 400000 in
set_option maxRecDepth 100000 in
theorem num_ok (p : Nat) (l m : Bs) (n : Nat) (w : World) (c0 : w.cell? ⟨p, 0, none⟩ = some (encStr l)) (f0 : w.frozen? ⟨p, 0, none⟩ = false) (hl : l.length ≤ 20000) (h : numP l = some (n, m)) :
    Calls Tryz.prog 84 #[.pointer (some ⟨p, 0, none⟩)] w fun e w' => e = .returned (.int .i64 (n : Nat)) ∧ ∃ W, w.grownBy W none ∧ w' = W.setCell ⟨p, 0, none⟩ (encStr m) := by
  have HT := hide (trim_call l w)
  have hle := trimLeft_le l digitsL
  unfold numP at h
  have htw : l.take (l.length - (Lib.trimLeftS l digitsL).length) = l.takeWhile (digitsL.contains ·) := by
    have e : l.takeWhile (digitsL.contains ·) ++ Lib.trimLeftS l digitsL = l := List.takeWhile_append_dropWhile
    have e2 := congrArg List.length e
    rw [List.length_append] at e2
    have e3 : l.length - (Lib.trimLeftS l digitsL).length = (l.takeWhile (digitsL.contains ·)).length := by omega
    rw [e3]
    exact List.prefix_iff_eq_take.1 (List.takeWhile_prefix _) |>.symm
  have hdig : ∀ c ∈ l.take (l.length - (Lib.trimLeftS l digitsL).length), c ∈ digitsL := by
    intro c hc
    rw [htw] at hc
    have := List.all_takeWhile (p := fun x => digitsL.contains x) (l := l)
    rw [List.all_eq_true] at this
    simpa using this c hc
  clear htw
  generalize Lib.trimLeftS l digitsL = T at HT hle h hdig
  split at h
  case h_2 => cases h
  rename_i v hv
  have hpos := atoi_pos hdig hv
  have he : v.toNat = n ∧ T = m := by simpa using h
  obtain ⟨hvn, rfl⟩ := he
  have hvn' : v = (n : Int) := by omega
  subst hvn'
  have hlt := lt_of_cell c0
  obtain ⟨N, hN⟩ : ∃ N, N = l.length - T.length := ⟨_, rfl⟩
  rw [← hN] at hv
  have hwrap : IntKind.i64.wrap ((l.length : Int) - (T.length : Int)) = (N : Int) := by
    rw [show ((l.length : Int) - (T.length : Int)) = ((N : Nat) : Int) from by omega]
    exact IntWalk.i64_in _ (by omega)
  have hNl : N ≤ l.length := by omega
  have hNi : (N : Int) ≤ (l.length : Int) := by omega
  clear hN hdig hpos
  go_enter Tryz.func84, Tryz.ntmps84
  go_wp2_with fail
  refine (unhide HT).mono ?_
  rintro e w1 ⟨rfl, hg1⟩
  have c1 := hg1.cell c0 (by simp)
  have f1 : w1.frozen? ⟨p, 0, none⟩ = false := (World.frozen?_of_block (hg1.block p hlt (by simp))).trans f0
  have HA := hide (Tryz.strconv_Atoi_ok ⟨(l.take N).toArray⟩ (by show (l.take N).toArray.size ≤ _; rw [List.size_toArray, List.length_take]; omega) n hv w1.drew)
  rw [← bytes_take] at HA
  have Hg1 := hide hg1
  have C1 : Hid (w1.drew.cell? ⟨p, 0, none⟩ = some (encStr l)) := c1
  have F1 : Hid (w1.drew.frozen? ⟨p, 0, none⟩ = false) := f1
  have HL1 : Hid (p < w1.drew.heap.size) := lt_of_cell c1
  clear hg1
  go_wp2_with fail
  go_region_law (go_simp; go_at_call 111; refine (unhide HA).mono ?_; rintro e w5 ⟨rfl, hw5⟩; have hg5 := grown_or hw5; have c5 := hg5.cell (unhide C1) (by simp); have f5 : w5.frozen? ⟨p, 0, none⟩ = false := (World.frozen?_of_block (hg5.block p (unhide HL1) (by simp))).trans (unhide F1); have Hg5 := hide hg5; clear hg5 hw5)
  all_goals
    go_wp2_with fail
    go_ret
    exact ⟨rfl, w5, gnone (unhide Hg1) (gnone (grownBy_drew (grownBy_refl _ _)) (unhide Hg5)), rfl⟩

set_option maxHeartbeats 400000 in
set_option maxRecDepth 100000 in
theorem num_fail (p : Nat) (l : Bs) (w : World) (c0 : w.cell? ⟨p, 0, none⟩ = some (encStr l)) (hl : l.length ≤ 20000) (hE : Errs w) (h : numP l = none) :
    Calls Tryz.prog 84 #[.pointer (some ⟨p, 0, none⟩)] w fun e w' => e = .panicked Up ∧ w.grownBy w' none := by
  have HT := hide (trim_call l w)
  have hle := trimLeft_le l digitsL
  unfold numP at h
  generalize Lib.trimLeftS l digitsL = T at HT hle h
  obtain ⟨N, hN⟩ : ∃ N, N = l.length - T.length := ⟨_, rfl⟩
  rw [← hN] at h
  have hwrap : IntKind.i64.wrap ((l.length : Int) - (T.length : Int)) = (N : Int) := by
    rw [show ((l.length : Int) - (T.length : Int)) = ((N : Nat) : Int) from by omega]
    exact IntWalk.i64_in _ (by omega)
  have hNl : N ≤ l.length := by omega
  have hNi : (N : Int) ≤ (l.length : Int) := by omega
  have hAt : ∀ w1, Errs w1 → Calls Tryz.prog 111 #[.string ⟨(l.take N).toArray⟩] w1 fun e w' => ∃ x M, e = .returned (.tuple #[.int .i64 x, .iface 208 (.pointer (some ⟨M, 0, none⟩))]) ∧ w1.grownBy w' none := by
    intro w1 hE1
    obtain ⟨⟨e1, h1, h2⟩, e2, h3, h4⟩ := hE1
    have hsz : (⟨(l.take N).toArray⟩ : ByteArray).size ≤ 281474976710656 := by
      show (l.take N).toArray.size ≤ _
      rw [List.size_toArray, List.length_take]
      omega
    cases hv : Lib.atoiAll (l.take N) with
    | ok v => rw [hv] at h; cases h
    | «syntax» =>
      refine (Tryz.strconv_Atoi_syntax ⟨(l.take N).toArray⟩ hsz hv e1 w1 h1 h2).mono ?_
      rintro e w' ⟨M, rfl, _, _, hb⟩
      exact ⟨_, M, rfl, below_grownBy hb none⟩
    | range =>
      refine (Tryz.strconv_Atoi_range ⟨(l.take N).toArray⟩ hsz hv e2 w1 h3 h4).mono ?_
      rintro e w' ⟨M, rfl, _, _, hb⟩
      exact ⟨_, M, rfl, below_grownBy hb none⟩
  have HAT := hide hAt
  have HE := hide hE
  clear hN hAt hE h
  go_enter Tryz.func84, Tryz.ntmps84
  go_wp2_with fail
  refine (unhide HT).mono ?_
  rintro e w1 ⟨rfl, hg1⟩
  have c1 := hg1.cell c0 (by simp)
  have HA := hide (unhide HAT w1.drew (((unhide HE).later hg1).later (grownBy_drew (grownBy_refl _ _))))
  rw [← bytes_take] at HA
  have Hg1 := hide hg1
  clear hg1
  go_wp2_with fail
  go_region_law (go_simp; go_at_call 111; refine (unhide HA).mono ?_; rintro e w5 ⟨x, M, rfl, hg5⟩; have HU := hide (give_up w5); have Hg5 := hide hg5; clear hg5)
  all_goals
    go_wp2_with fail
    refine (unhide HU).mono ?_
    rintro e w6 ⟨rfl, rfl⟩
    exact ⟨rfl, rfl, gnone (unhide Hg1) (gnone (grownBy_drew (grownBy_refl _ _)) (unhide Hg5))⟩

end Go.Proofs.YtdfnngehhiociaaGreatDoor

namespace Go.Proofs.YtdfnngehhiociaaGreatDoor
open Go.RowKit
open Go.Proofs (encStr)

/-! The states that a reader has read. -/

theorem row_set {w : World} {base : Nat} {e : TypeId} {size : Nat} {g n cap : Nat} {xs : List Value} (h : w.ownsRow base e size (.slice (some ⟨g, 0, none⟩) n cap) n xs) (j : Nat) (u : Value) :
    (w.setCell ⟨g, j, none⟩ u).ownsRow base e size (.slice (some ⟨g, 0, none⟩) n cap) n (xs.set j u) := by
  refine ⟨by rw [List.length_set]; exact h.1, ?_⟩
  rcases h.2 with ⟨h0, _⟩ | ⟨g', cap', cur, hv, hb, hg, h1, h2, h3, h4⟩
  · cases h0
  · injection hv with e1 _ e3
    injection e1 with e1
    injection e1 with e1
    subst e1
    subst e3
    refine Or.inr ⟨g, cap, cur.setIfInBounds j u, rfl, hb, ?_, h1, h2, by simpa using h3, ?_⟩
    · simp [World.setCell, Array.getElem?_modify, hg]
    · rw [← h4, Array.toList_setIfInBounds, List.take_set]

structure RwsV (n0 : Nat) (w : World) (gv : Value) (g : List St) (vs : List Value) : Prop where
  len : vs.length = g.length
  row : w.ownsRow n0 92 2 gv g.length (cellsG g vs)
  arr : ∀ i, i < g.length → ∃ u, vs[i]? = some u ∧ Arr n0 w u (g.getD i (false, [])).2
  sep : ∀ i u l, i + 1 < g.length → vs[i]? = some u → vs[g.length - 1]? = some l → u.ownBlock = none ∨ u.ownBlock ≠ l.ownBlock

theorem RwsV.off {n0 : Nat} {w w' : World} {gv : Value} {g : List St} {vs : List Value} {row : Option Nat} (h : RwsV n0 w gv g vs) (hg : w.grownBy w' row) (hr : ∀ j, row = some j → ∀ c, w.heap[j]? ≠ some (.cells c 92 (0, 0)) ∧ w.heap[j]? ≠ some (.cells c 134 (0, 0))) : RwsV n0 w' gv g vs := by
  refine ⟨h.len, row_off h.row hg ?_, fun i hi => ?_, h.sep⟩
  · cases hb : gv.ownBlock with
    | none => exact Or.inl rfl
    | some q =>
      refine Or.inr fun e => ?_
      obtain ⟨_, c, hc⟩ := row_block h.row hb
      exact (hr q e.symm c).1 hc
  · obtain ⟨u, hu, hA⟩ := h.arr i hi
    refine ⟨u, hu, row_off hA hg ?_⟩
    cases hb : u.ownBlock with
    | none => exact Or.inl rfl
    | some q =>
      refine Or.inr fun e => ?_
      obtain ⟨_, c, hc⟩ := row_block hA hb
      exact (hr q e.symm c).2 hc

theorem RwsV.later {n0 : Nat} {w w' : World} {gv : Value} {g : List St} {vs : List Value} (h : RwsV n0 w gv g vs) (hg : w.grownBy w' none) : RwsV n0 w' gv g vs := h.off hg fun j e => by cases e

/-- A state more. -/
theorem RwsV.mark {n0 : Nat} {w w' : World} {gv gv' : Value} {g : List St} {vs : List Value} {b : Bool} (h : RwsV n0 w gv g vs) (hg : w.grownBy w' gv.ownBlock)
    (hown : w'.ownsRow n0 92 2 gv' (g.length + 1) (cellsG g vs ++ [.bool b, .slice none 0 0])) : RwsV n0 w' gv' (g ++ [(b, [])]) (vs ++ [.slice none 0 0]) := by
  refine ⟨by simp [h.len], ?_, fun i hi => ?_, fun i u l hi hu hl => ?_⟩
  · rw [cellsG_snoc h.len, List.length_append, List.length_singleton]
    exact hown
  · rw [List.length_append, List.length_singleton] at hi
    by_cases hlt : i < g.length
    · obtain ⟨u, hu, hA⟩ := h.arr i hlt
      refine ⟨u, by rw [List.getElem?_append_left (by have := h.len; omega)]; exact hu, ?_⟩
      rw [show (g ++ [(b, ([] : List (Int × Nat)))]).getD i (false, []) = g.getD i (false, []) from by simp [List.getD, List.getElem?_append_left hlt]]
      refine row_off hA hg ?_
      cases hb : u.ownBlock with
      | none => exact Or.inl rfl
      | some q =>
        refine Or.inr fun e => ?_
        obtain ⟨_, c, hc⟩ := row_block hA hb
        obtain ⟨_, c', hc'⟩ := row_block h.row e.symm
        rw [hc] at hc'
        cases hc'
    · obtain rfl : i = g.length := by omega
      refine ⟨.slice none 0 0, by rw [← h.len]; simp, ?_⟩
      rw [show (g ++ [(b, ([] : List (Int × Nat)))]).getD g.length (false, []) = (b, []) from by simp [List.getD]]
      exact World.ownsRow_nil _ _ _ _
  · have e : (g ++ [(b, ([] : List (Int × Nat)))]).length - 1 = vs.length := by rw [h.len]; simp
    rw [e] at hl
    have : Value.slice none 0 0 = l := by simpa using hl
    subst this
    cases hb : u.ownBlock with
    | none => exact Or.inl rfl
    | some q => exact Or.inr (by simp [Value.ownBlock])

/-- An arrow more. -/
theorem RwsV.arrow {n0 gb cap g' cap' : Nat} {w w' : World} {g : List St} {b : Bool} {A : List (Int × Nat)} {vs : List Value} {va : Value} {q : Int × Nat}
    (h : RwsV n0 w (.slice (some ⟨gb, 0, none⟩) (g.length + 1) cap) (g ++ [(b, A)]) (vs ++ [va])) (hg : w.grownBy w' va.ownBlock) (hat : va.ownBlock = some g' ∨ g' = w.heap.size)
    (hown : w'.ownsRow n0 134 2 (.slice (some ⟨g', 0, none⟩) (A.length + 1) cap') (A.length + 1) (A.flatMap encA ++ encA q)) :
    RwsV n0 (w'.setCell ⟨gb, g.length * 2 + 1, none⟩ (.slice (some ⟨g', 0, none⟩) (A.length + 1) cap')) (.slice (some ⟨gb, 0, none⟩) (g.length + 1) cap) (g ++ [(b, A ++ [q])]) (vs ++ [.slice (some ⟨g', 0, none⟩) (A.length + 1) cap']) := by
  have hlen := h.len
  simp only [List.length_append, List.length_singleton] at hlen
  have hl : vs.length = g.length := by omega
  have hrow := h.row
  rw [List.length_append, List.length_singleton, cellsG_snoc hl] at hrow
  obtain ⟨_, cg, hcg⟩ := row_block hrow (show (Value.slice (some ⟨gb, 0, none⟩) (g.length + 1) cap).ownBlock = some gb from rfl)
  have hA : Arr n0 w va A := by
    obtain ⟨u, hu, hA⟩ := h.arr g.length (by simp)
    have e1 : va = u := by rw [← hl] at hu; simpa using hu
    subst e1
    rw [show (g ++ [(b, A)]).getD g.length (false, []) = (b, A) from by simp [List.getD]] at hA
    exact hA
  have hgb : some gb ≠ va.ownBlock := fun e => by
    obtain ⟨_, c, hc⟩ := row_block hA e.symm
    rw [hcg] at hc
    cases hc
  have hcg' : w'.heap[gb]? = some (.cells cg 92 (0, 0)) := (hg.block gb (Array.getElem?_eq_some_iff.1 hcg).1 hgb).trans hcg
  have hrow' := row_off hrow hg (Or.inr hgb)
  have g7 := grown_set w' gb (g.length * 2 + 1) (.slice (some ⟨g', 0, none⟩) (A.length + 1) cap')
  have hkeep : ∀ (u : Value) (B : List (Int × Nat)), Arr n0 w' u B → Arr n0 (w'.setCell ⟨gb, g.length * 2 + 1, none⟩ (.slice (some ⟨g', 0, none⟩) (A.length + 1) cap')) u B := by
    intro u B hB
    refine row_off hB g7 ?_
    cases hb : u.ownBlock with
    | none => exact Or.inl rfl
    | some r =>
      refine Or.inr fun e => ?_
      obtain ⟨_, c, hc⟩ := row_block hB hb
      rw [Option.some.inj e, hcg'] at hc
      cases hc
  have hcl : (cellsG g vs).length = g.length * 2 := by
    have := hrow.1
    rw [List.length_append] at this
    simp at this
    omega
  refine ⟨by simp [hl], ?_, fun i hi => ?_, fun i u l hi hu hl' => ?_⟩
  · have hs := row_set hrow' (g.length * 2 + 1) (.slice (some ⟨g', 0, none⟩) (A.length + 1) cap')
    rw [List.set_append_right _ _ (by omega), hcl, show g.length * 2 + 1 - g.length * 2 = 1 from by omega] at hs
    rw [List.length_append, List.length_singleton, cellsG_snoc hl]
    exact hs
  · rw [List.length_append, List.length_singleton] at hi
    by_cases hlt : i < g.length
    · obtain ⟨u, hu, hU⟩ := h.arr i (by simp; omega)
      have hu' : vs[i]? = some u := by rw [List.getElem?_append_left (by omega)] at hu; exact hu
      have hsep := h.sep i u va (by simp; omega) hu (by rw [List.length_append, List.length_singleton, show g.length + 1 - 1 = vs.length from by omega]; simp)
      rw [show (g ++ [(b, A)]).getD i (false, []) = g.getD i (false, []) from by simp [List.getD, List.getElem?_append_left hlt]] at hU
      refine ⟨u, by rw [List.getElem?_append_left (by omega)]; exact hu', ?_⟩
      rw [show (g ++ [(b, A ++ [q])]).getD i (false, []) = g.getD i (false, []) from by simp [List.getD, List.getElem?_append_left hlt]]
      exact hkeep _ _ (row_off hU hg hsep)
    · obtain rfl : i = g.length := by omega
      refine ⟨.slice (some ⟨g', 0, none⟩) (A.length + 1) cap', by rw [← hl]; simp, ?_⟩
      rw [show (g ++ [(b, A ++ [q])]).getD g.length (false, []) = (b, A ++ [q]) from by simp [List.getD]]
      refine hkeep _ _ ?_
      unfold Arr
      rw [List.length_append, List.length_singleton, List.flatMap_append]
      simpa using hown
  · rw [List.length_append, List.length_singleton] at hi hl'
    rw [show g.length + 1 - 1 = vs.length from by omega] at hl'
    have el : Value.slice (some ⟨g', 0, none⟩) (A.length + 1) cap' = l := by simpa using hl'
    subst el
    have hu' : vs[i]? = some u := by rw [List.getElem?_append_left (by omega)] at hu; exact hu
    have hu0 : (vs ++ [va])[i]? = some u := by rw [List.getElem?_append_left (by omega)]; exact hu'
    have hsep := h.sep i u va (by simp; omega) hu0 (by rw [List.length_append, List.length_singleton, show g.length + 1 - 1 = vs.length from by omega]; simp)
    rcases hsep with hs | hs
    · exact Or.inl hs
    · refine Or.inr fun e => ?_
      have e' : u.ownBlock = some g' := e
      rcases hat with h1 | h1
      · exact hs (e'.trans h1.symm)
      · obtain ⟨x, hx, hX⟩ := h.arr i (by simp; omega)
        rw [hu0] at hx
        cases hx
        obtain ⟨_, c, hc⟩ := row_block hX e'
        have := (Array.getElem?_eq_some_iff.1 hc).1
        omega

/-- A reader lies there. -/
structure RdAt (n0 p : Nat) (w : World) (q : Rd) : Prop where
  lo : n0 ≤ p
  has : ∃ gv vs, w.heap[p]? = some (.cells #[encStr q.left, .int .i64 (q.count : Nat), .int .i32 q.rune, gv] 104 (0, 0)) ∧ RwsV n0 w gv q.states vs

theorem RwsV.set {n0 p k : Nat} {w : World} {gv : Value} {g : List St} {vs : List Value} {cs : Array Value} (h : RwsV n0 w gv g vs) (hp : w.heap[p]? = some (.cells cs 104 (0, 0))) (v : Value) : RwsV n0 (w.setCell ⟨p, k, none⟩ v) gv g vs :=
  h.off (grown_set _ _ _ _) fun j e c => by
    cases e
    refine ⟨fun e => ?_, fun e => ?_⟩
    · rw [hp] at e; cases e
    · rw [hp] at e; cases e

theorem RdAt.left {n0 p : Nat} {w W : World} {q : Rd} (h : RdAt n0 p w q) (hg : w.grownBy W none) (m : Bs) : RdAt n0 p (W.setCell ⟨p, 0, none⟩ (encStr m)) { q with left := m } := by
  obtain ⟨gv, vs, h1, h2⟩ := h.has
  have h1' := (hg.block p (Array.getElem?_eq_some_iff.1 h1).1 (by simp)).trans h1
  exact ⟨h.lo, gv, vs, by simp [World.setCell, Array.getElem?_modify, h1'], (h2.later hg).set h1' _⟩
theorem RdAt.counts {n0 p : Nat} {w : World} {q : Rd} (h : RdAt n0 p w q) (n : Nat) : RdAt n0 p (w.setCell ⟨p, 1, none⟩ (.int .i64 (n : Nat))) { q with count := n } := by
  obtain ⟨gv, vs, h1, h2⟩ := h.has
  exact ⟨h.lo, gv, vs, by simp [World.setCell, Array.getElem?_modify, h1], h2.set h1 _⟩
theorem RdAt.runes {n0 p : Nat} {w : World} {q : Rd} (h : RdAt n0 p w q) (r : Int) : RdAt n0 p (w.setCell ⟨p, 2, none⟩ (.int .i32 r)) { q with rune := r } := by
  obtain ⟨gv, vs, h1, h2⟩ := h.has
  exact ⟨h.lo, gv, vs, by simp [World.setCell, Array.getElem?_modify, h1], h2.set h1 _⟩

end Go.Proofs.YtdfnngehhiociaaGreatDoor
