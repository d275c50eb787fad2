import Derived.Test.YtdfnngehhiociaaGreatDoorCome
namespace Go.Proofs.YtdfnngehhiociaaGreatDoor
open Go.RowKit Go.Maps Go.WideMaps

/-- A slice of strings lies there. -/
def Strs (w : World) (v : Value) (ws : List ByteArray) : Prop :=
  (v = .slice none 0 0 ∧ ws = []) ∨ ∃ g off cap, v = .slice (some ⟨g, off, none⟩) ws.length cap ∧ ∀ j, j < ws.length → w.cell? ⟨g, off + j, none⟩ = some (.string (ws.getD j ByteArray.empty))

theorem Strs.kept {w w' : World} {v : Value} {ws : List ByteArray} (h : Strs w v ws) (hg : w.grownBy w' none) : Strs w' v ws := by
  rcases h with h | ⟨g, off, cap, hv, hc⟩
  · exact Or.inl h
  · exact Or.inr ⟨g, off, cap, hv, fun j hj => hg.cell (hc j hj) (by simp)⟩

/-- The words are tried one after the other: what is there then; the first error, and which word has it. -/
def tryAll (E : List Bs → Bs → Int) (N : List Bs → Bs → List Bs) : List Bs → List Bs → Nat → List Bs × Int × Nat
  | L, [], _ => (L, 0, 0)
  | L, x :: ws, i => if E L x = 0 then tryAll E N (N L x) ws (i + 1) else (L, E L x, i)

theorem getD_map (ws : List ByteArray) (k : Nat) (hk : k < ws.length) : (ws.map bs).drop k = bs (ws.getD k ByteArray.empty) :: (ws.map bs).drop (k + 1) := by
  rw [List.drop_eq_getElem_cons (by simpa using hk)]
  simp [List.getD, hk]

theorem getD_mem (ws : List ByteArray) (k : Nat) (hk : k < ws.length) : ws.getD k ByteArray.empty ∈ ws := by
  simp [List.getD, hk]

set_option maxHeartbeats 1000000 in
set_option maxRecDepth 100000 in
theorem tryEach_some (fm : FuncId) (b : Nat) (E : List Bs → Bs → Int) (N : List Bs → Bs → List Bs) (P : List Bs → Prop) (hP : ∀ L x, P L → E L x = 0 → P (N L x))
    (he : ∀ args w, (callFunc fm args).run Tryz.prog w = .ok (.enter fm args) w)
    (hf : ∀ L (x : ByteArray) w, IsSet w b L → Tabs w → P L → x.size ≤ 281474976710656 → Calls Tryz.prog fm #[.map (some b), .string x] w fun e w' => e = .returned (.int .i64 (E L (bs x))) ∧ IsSet w' b (if E L (bs x) = 0 then N L (bs x) else L) ∧ w.grownBy w' (some b))
    (L : List Bs) (ws : List ByteArray) (g off cap : Nat) (w : World) (hS : IsSet w b L) (hT : Tabs w) (hPL : P L) (hc : ∀ j, j < ws.length → w.cell? ⟨g, off + j, none⟩ = some (.string (ws.getD j ByteArray.empty)))
    (hlen : ws.length < 281474976710656) (hsz : ∀ x ∈ ws, x.size ≤ 281474976710656) :
    Calls Tryz.prog 39 #[.slice (some ⟨g, off, none⟩) ws.length cap, .func (.func fm) #[.map (some b)] #[]] w fun e w' =>
      e = .returned (.tuple #[.int .i64 (tryAll E N L (ws.map bs) 0).2.1, .int .i64 (tryAll E N L (ws.map bs) 0).2.2]) ∧ IsSet w' b (tryAll E N L (ws.map bs) 0).1 ∧ w.grownBy w' (some b) := by
  generalize hR : tryAll E N L (ws.map bs) 0 = R
  have HR := hide hR
  clear hR
  go_enter Tryz.func39, Tryz.ntmps39
  go_wp2
  go_loopw [11] (fun i wr => ∃ (k : Nat) (Lk : List Bs), k ≤ ws.length ∧ i = .int .i64 k ∧ IsSet wr b Lk ∧ P Lk ∧ w.grownBy wr (some b) ∧ Hid (tryAll E N Lk ((ws.map bs).drop k) k = R)) (fun i _ => ws.length - (intOf i).toNat)
  case atStart => exact ⟨0, L, Nat.zero_le _, rfl, hS, hPL, grownBy_refl _ _, HR⟩
  case round =>
    obtain ⟨k, Lk, hk, rfl, hSk, hPk, hgk, hRk⟩ := hrel
    by_cases hlt : k < ws.length
    · have hcell : wr.cell? ⟨g, off + k, none⟩ = some (.string (ws.getD k ByteArray.empty)) := hgk.cell (hc k hlt) (fun e => hS.ne (hc k hlt) (Option.some.inj e))
      have hx : (ws.getD k ByteArray.empty).size ≤ 281474976710656 := hsz _ (getD_mem ws k hlt)
      have hTk : Tabs wr := hT.set hS hgk
      have hstep := getD_map ws k hlt
      generalize ws.getD k ByteArray.empty = x at hcell hx hstep
      have hcall := hf Lk x wr hSk hTk hPk hx
      have HS := hide hstep
      clear hstep
      by_cases hE : E Lk (bs x) = 0
      · rw [hE] at hcall
        simp only [if_true] at hcall
        have HC := hide hcall
        have HE := hide hE
        clear hcall hE
        go_wp2_with fail
        refine (unhide HC).mono ?_
        rintro e w2 ⟨rfl, hS2, hg2⟩
        go_wp2
        go_roundw
        case rel =>
          refine ⟨k + 1, _, by omega, by go_num, hS2, hP _ _ hPk (unhide HE), gtrans hgk hg2, ?_⟩
          have := unhide hRk
          rw [unhide HS, tryAll, if_pos (unhide HE)] at this
          exact this
        case measure => simp [intOf]; omega
      · have hR' := unhide hRk
        rw [unhide HS, tryAll, if_neg hE] at hR'
        rw [if_neg hE] at hcall
        generalize E Lk (bs x) = c at hcall hE hR'
        have hb : (c == 0) = false := by simpa using hE
        have HC := hide hcall
        have HR' := hide hR'
        clear hcall hR'
        go_wp2_with fail
        refine (unhide HC).mono ?_
        rintro e w2 ⟨rfl, hS2, hg2⟩
        go_wp2
        go_ret2
        rw [← unhide HR']
        exact ⟨rfl, hS2, gtrans hgk hg2⟩
    · obtain rfl : k = ws.length := by omega
      go_wp2
      go_ret2
      have := unhide hRk
      rw [List.drop_eq_nil_iff.2 (by simp), tryAll] at this
      rw [← this]
      exact ⟨rfl, hSk, hgk⟩

set_option maxRecDepth 100000 in
theorem tryEach_none (f : Value) (w : World) : Calls Tryz.prog 39 #[.slice none 0 0, f] w fun e w' => e = .returned (.tuple #[.int .i64 0, .int .i64 0]) ∧ w' = w := by
  go_enter Tryz.func39, Tryz.ntmps39
  go_wp2
  refine wp_loop_rounds 1 ?_
  rw [rounds_succ]
  go_wp2
  go_ret2
  exact ⟨rfl, rfl⟩

theorem tryEach_any (fm : FuncId) (b : Nat) (E : List Bs → Bs → Int) (N : List Bs → Bs → List Bs) (P : List Bs → Prop) (hP : ∀ L x, P L → E L x = 0 → P (N L x))
    (he : ∀ args w, (callFunc fm args).run Tryz.prog w = .ok (.enter fm args) w)
    (hf : ∀ L (x : ByteArray) w, IsSet w b L → Tabs w → P L → x.size ≤ 281474976710656 → Calls Tryz.prog fm #[.map (some b), .string x] w fun e w' => e = .returned (.int .i64 (E L (bs x))) ∧ IsSet w' b (if E L (bs x) = 0 then N L (bs x) else L) ∧ w.grownBy w' (some b))
    (L : List Bs) (ws : List ByteArray) (v : Value) (w : World) (hS : IsSet w b L) (hT : Tabs w) (hPL : P L) (hv : Strs w v ws) (hlen : ws.length < 281474976710656) (hsz : ∀ x ∈ ws, x.size ≤ 281474976710656) :
    Calls Tryz.prog 39 #[v, .func (.func fm) #[.map (some b)] #[]] w fun e w' =>
      e = .returned (.tuple #[.int .i64 (tryAll E N L (ws.map bs) 0).2.1, .int .i64 (tryAll E N L (ws.map bs) 0).2.2]) ∧ IsSet w' b (tryAll E N L (ws.map bs) 0).1 ∧ w.grownBy w' (some b) := by
  rcases hv with ⟨rfl, rfl⟩ | ⟨g, off, cap, rfl, hc⟩
  · refine (tryEach_none _ _).mono ?_
    rintro e w' ⟨rfl, rfl⟩
    exact ⟨rfl, hS, grownBy_refl _ _⟩
  · exact tryEach_some fm b E N P hP he hf L ws g off cap w hS hT hPL hc hlen hsz

end Go.Proofs.YtdfnngehhiociaaGreatDoor
