import Derived.Test.YtdfnngehhiociaaGreatDoorTry
import Derived.Test.YtdfnngehhiociaaGreatDoorShelfC
namespace Go.Proofs.YtdfnngehhiociaaGreatDoor
open Go.RowKit Go.Maps Go.WideMaps

theorem valid_said : ValidSaid := fun s w hs hT => Any.utf8_ValidString Tryz.laysValid s w hs hT

theorem width_le (s : ByteArray) (i : Nat) : (Utf8.decode s i).2 ≤ 4 := by
  simp only [Utf8.decode]
  repeat' split
  all_goals simp

theorem bytes_le : ∀ (n : Nat) (l : Bs), l.length ≤ n → l.length ≤ 4 * (runesD l).length
  | 0, l, h => by omega
  | n + 1, l, h => by
    by_cases hne : l = []
    · subst hne; simp
    · have hw := Lib.decodeL_width l
      have h4 : (Lib.decodeL l).2 ≤ 4 := width_le _ _
      have hp : 0 < l.length := List.length_pos_iff.2 hne
      have ih := bytes_le n (l.drop (Lib.decodeL l).2) (by rw [List.length_drop]; omega)
      rw [runesD_step l hne, List.length_cons]
      rw [List.length_drop] at ih
      omega

/-- Nothing is wrong with the words, and they are not too many. -/
def Good (L : List Bs) : Prop := L.length ≤ 40 ∧ ∀ x ∈ L, wrong x = 0

theorem wrong_runes {x : Bs} (h : wrong x = 0) : x ≠ [] ∧ Lib.validD x = true ∧ (runesD x).length ≤ 10 ∧ ∀ r ∈ runesD x, 32 < r := by
  unfold wrong at h
  by_cases h1 : x = [] ∨ Lib.validD x = false
  · rw [if_pos h1] at h; cases h
  · rw [if_neg h1] at h
    by_cases h2 : 10 < (runesD x).length
    · rw [if_pos h2] at h; cases h
    · rw [if_neg h2] at h
      by_cases h3 : (runesD x).any (fun r => decide (r ≤ 32)) = true
      · rw [if_pos h3] at h; cases h
      · refine ⟨fun e => h1 (Or.inl e), ?_, by omega, fun r hr => ?_⟩
        · cases hv : Lib.validD x with
          | true => rfl
          | false => exact absurd (Or.inr hv) h1
        · apply Classical.byContradiction
          intro hn
          exact h3 (List.any_eq_true.2 ⟨r, hr, by simpa using hn⟩)
theorem wrong_len {x : Bs} (h : wrong x = 0) : x.length ≤ 40 := by
  have := (wrong_runes h).2.2.1
  have := bytes_le _ x (Nat.le_refl _)
  omega
theorem Good.le {L : List Bs} (h : Good L) : ∀ x ∈ L, x.length ≤ 281474976710656 := fun x hx => by
  have := wrong_len (h.2 x hx); omega

theorem good_nil : Good [] := ⟨by simp, by simp⟩
theorem good_come {L : List Bs} {x : Bs} (h : Good L) (he : comeE L x = 0) : Good (L ++ [x]) := by
  unfold comeE at he
  by_cases h0 : wrong x = 0
  · simp [h0] at he
    by_cases hm : x ∈ L
    · simp [hm] at he
    · simp [hm] at he
      refine ⟨by simp; omega, fun y hy => ?_⟩
      rcases List.mem_append.1 hy with hy | hy
      · exact h.2 y hy
      · simp at hy; subst hy; exact h0
  · simp [h0] at he
theorem good_leave {L : List Bs} {x : Bs} (h : Good L) : Good (L.erase x) :=
  ⟨Nat.le_trans (List.length_erase_le ..) h.1, fun y hy => h.2 y (List.mem_of_mem_erase hy)⟩

theorem good_tryAll {E : List Bs → Bs → Int} {N : List Bs → Bs → List Bs} (hP : ∀ L x, Good L → E L x = 0 → Good (N L x)) : ∀ (ws L : List Bs) (i : Nat), Good L → Good (tryAll E N L ws i).1
  | [], L, _, h => h
  | x :: ws, L, i, h => by
    unfold tryAll
    by_cases he : E L x = 0
    · rw [if_pos he]; exact good_tryAll hP ws _ _ (hP L x h he)
    · rw [if_neg he]; exact h

/-- A lexicon lies at p. -/
def IsLex (w : World) (p : Nat) (L : List Bs) : Prop := ∃ b, w.cell? ⟨p, 0, none⟩ = some (.map (some b)) ∧ IsSet w b L ∧ Good L

theorem IsLex.kept {w w' : World} {p : Nat} {L : List Bs} (h : IsLex w p L) (hg : w.grownBy w' none) : IsLex w' p L := by
  obtain ⟨b, h1, h2, h3⟩ := h
  exact ⟨b, hg.cell h1 (by simp), h2.kept hg (by simp), h3⟩

def comeN (L : List Bs) (x : Bs) : List Bs := L ++ [x]
def leaveN (L : List Bs) (x : Bs) : List Bs := L.erase x
/-- With, Without, as lists. -/
def withR (L ws : List Bs) : List Bs × Int × Nat := tryAll comeE comeN L ws 0
def withoutR (L ws : List Bs) : List Bs × Int × Nat := tryAll leaveE leaveN L ws 0

/-- What With and Without answer. -/
def Answer (w : World) (R : List Bs × Int × Nat) (e : Ending) (w' : World) : Prop :=
  w.grownBy w' none ∧ ((R.2.1 = 0 ∧ ∃ p, e = .returned (.tuple #[.pointer (some ⟨p, 0, none⟩), .int .i64 0, .int .i64 0]) ∧ IsLex w' p R.1) ∨
    (R.2.1 ≠ 0 ∧ e = .returned (.tuple #[.pointer none, .int .i64 R.2.1, .int .i64 R.2.2])))

set_option maxRecDepth 100000 in
theorem with_any (p : Nat) (mb : Option Nat) (L : List Bs) (ws : List ByteArray) (v : Value) (w : World) (hp : w.cell? ⟨p, 0, none⟩ = some (.map mb)) (hM : IsMapOf w mb L) (hG : Good L) (hT : Tabs w)
    (hv : Strs w v ws) (hlen : ws.length < 281474976710656) (hsz : ∀ x ∈ ws, x.size ≤ 281474976710656) :
    Calls Tryz.prog 22 #[.pointer (some ⟨p, 0, none⟩), v] w (Answer w (withR L (ws.map bs))) := by
  have h40 := hG.1
  generalize hR : withR L (ws.map bs) = R
  have hgood : Good R.1 := by rw [← hR]; exact good_tryAll (fun L x h he => good_come h he) _ _ _ hG
  have HR := hide hR
  clear hR
  obtain ⟨R1, R2, R3⟩ := R
  simp only at hgood
  go_enter Tryz.func22, Tryz.ntmps22
  go_wp2_with fail
  refine (copied_any mb L _ hM hG.le (by omega)).mono ?_
  rintro e w1 ⟨b, rfl, hS1, hb1, hg1⟩
  go_wp2_with fail
  have hc := tryEach_any 42 b comeE comeN Good (fun L x h he => good_come h he) (enters_of Tryz.func42 (by kernel_rfl) rfl) (fun L x w hS hT hG hx => come_any valid_said b L x w hS hT hx hG.1) L ws v _ hS1 (hT.none hg1) hG (hv.kept hg1) hlen hsz
  change Calls Tryz.prog 39 _ _ fun e w' => e = .returned (.tuple #[.int .i64 (withR L (ws.map bs)).2.1, .int .i64 (withR L (ws.map bs)).2.2]) ∧ IsSet w' b (withR L (ws.map bs)).1 ∧ _ at hc
  rw [unhide HR] at hc
  refine hc.mono ?_
  clear hc
  rintro e w2 ⟨rfl, hS2, hg2⟩
  have hg : w.grownBy w2 none := gnew hg1 hg2 (fun j hj => by cases hj; exact hb1)
  simp only at hS2
  by_cases h0 : R2 = 0
  · subst h0
    go_wp2_with (go_at_call 41; refine (settled_good _ _ _).mono ?_; rintro e w3 ⟨rfl, rfl⟩)
    go_ret3
    refine ⟨gnone hg (grownBy_none_alloc _ _), Or.inl ⟨rfl, _, rfl, b, by go_simp, hS2.kept (grownBy_none_alloc _ _) (by simp), hgood⟩⟩
  · have hb : (R2 == 0) = false := by simpa using h0
    go_wp2_with (go_at_call 41; refine (settled_bad _ _ _ _ hb).mono ?_; rintro e w3 ⟨rfl, rfl⟩)
    go_ret3
    exact ⟨hg, Or.inr ⟨h0, rfl⟩⟩

set_option maxRecDepth 100000 in
theorem without_any (p : Nat) (mb : Option Nat) (L : List Bs) (ws : List ByteArray) (v : Value) (w : World) (hp : w.cell? ⟨p, 0, none⟩ = some (.map mb)) (hM : IsMapOf w mb L) (hG : Good L) (hT : Tabs w)
    (hv : Strs w v ws) (hlen : ws.length < 281474976710656) (hsz : ∀ x ∈ ws, x.size ≤ 281474976710656) :
    Calls Tryz.prog 21 #[.pointer (some ⟨p, 0, none⟩), v] w (Answer w (withoutR L (ws.map bs))) := by
  have h40 := hG.1
  generalize hR : withoutR L (ws.map bs) = R
  have hgood : Good R.1 := by rw [← hR]; exact good_tryAll (fun L x h _ => good_leave h) _ _ _ hG
  have HR := hide hR
  clear hR
  obtain ⟨R1, R2, R3⟩ := R
  simp only at hgood
  go_enter Tryz.func21, Tryz.ntmps21
  go_wp2_with fail
  refine (copied_any mb L _ hM hG.le (by omega)).mono ?_
  rintro e w1 ⟨b, rfl, hS1, hb1, hg1⟩
  go_wp2_with fail
  have hc := tryEach_any 40 b leaveE leaveN Good (fun L x h _ => good_leave h) (enters_of Tryz.func40 (by kernel_rfl) rfl) (fun L x w hS hT hG hx => leave_any valid_said b L x w hS hT hx) L ws v _ hS1 (hT.none hg1) hG (hv.kept hg1) hlen hsz
  change Calls Tryz.prog 39 _ _ fun e w' => e = .returned (.tuple #[.int .i64 (withoutR L (ws.map bs)).2.1, .int .i64 (withoutR L (ws.map bs)).2.2]) ∧ IsSet w' b (withoutR L (ws.map bs)).1 ∧ _ at hc
  rw [unhide HR] at hc
  refine hc.mono ?_
  clear hc
  rintro e w2 ⟨rfl, hS2, hg2⟩
  have hg : w.grownBy w2 none := gnew hg1 hg2 (fun j hj => by cases hj; exact hb1)
  simp only at hS2
  by_cases h0 : R2 = 0
  · subst h0
    go_wp2_with (go_at_call 41; refine (settled_good _ _ _).mono ?_; rintro e w3 ⟨rfl, rfl⟩)
    go_ret3
    refine ⟨gnone hg (grownBy_none_alloc _ _), Or.inl ⟨rfl, _, rfl, b, by go_simp, hS2.kept (grownBy_none_alloc _ _) (by simp), hgood⟩⟩
  · have hb : (R2 == 0) = false := by simpa using h0
    go_wp2_with (go_at_call 41; refine (settled_bad _ _ _ _ hb).mono ?_; rintro e w3 ⟨rfl, rfl⟩)
    go_ret3
    exact ⟨hg, Or.inr ⟨h0, rfl⟩⟩

set_option maxRecDepth 100000 in
theorem build_any (ws : List ByteArray) (v : Value) (w : World) (hT : Tabs w) (hv : Strs w v ws) (hlen : ws.length < 281474976710656) (hsz : ∀ x ∈ ws, x.size ≤ 281474976710656) :
    Calls Tryz.prog 17 #[v] w (Answer w (withR [] (ws.map bs))) := by
  have hga : w.grownBy (w.alloc (.cells #[.map none] 55)) none := grownBy_none_alloc _ _
  have hc := with_any w.heap.size none [] ws v (w.alloc (.cells #[.map none] 55)) (by go_simp) rfl good_nil (hT.none hga) (hv.kept hga) hlen hsz
  generalize withR [] (ws.map bs) = R at hc ⊢
  have HC := hide hc
  clear hc
  go_enter Tryz.func17, Tryz.ntmps17
  go_wp2_with fail
  refine (unhide HC).mono ?_
  rintro e w2 ⟨hg2, ⟨h0, p, rfl, hl⟩ | ⟨h0, rfl⟩⟩
  · go_wp2
    go_ret3
    exact ⟨gnone hga hg2, Or.inl ⟨h0, p, rfl, hl⟩⟩
  · go_wp2
    go_ret3
    exact ⟨gnone hga hg2, Or.inr ⟨h0, rfl⟩⟩

end Go.Proofs.YtdfnngehhiociaaGreatDoor
