import Derived.Test.YtdfnngehhiociaaGreatDoorFarOf
import Derived.BigQuiet
import Derived.Deep.QuietTactic
namespace Go.Proofs.YtdfnngehhiociaaGreatDoor
open Go.RowKit Go.Maps Go.WideMaps Go.Sort
open Go.Proofs (encStr)

theorem Tryd_info33 : (Tryz.prog.info? 33).map (fun i => (i.zero, i.size, i.bytes)) = some (some (.slice none 0 0), 1, 24) := by kernel_rfl

theorem near_f (p f : Nat) (L : List Bs) (x : Bs) (w : World) (hL : IsLex w p L) (hT : Tabs w) (hx : x ∈ L) (hf : f ≤ 3) :
    Calls Tryz.prog 12 #[.pointer (some ⟨p, 0, none⟩), encStr x, .int .i64 f, .int .i64 40] w fun e w' => ∃ v, e = .returned (.tuple #[v, .int .i64 0]) ∧ MRow w' v (allNear L x f) ∧ w.grownBy w' none := by
  have hG := hL.good
  have h := near_any p f 40 L ⟨x.toArray⟩ w hL hT (by rw [bs_mk]; exact hG.2 x hx) hf (by decide)
  rw [bs_mk, near_all L x f hG.1] at h
  exact h

theorem MRow.keptRow {w w' : World} {v : Value} {ms : List (Bs × Nat)} {row : Option Nat} (h : MRow w v ms) (hg : w.grownBy w' row) (hne : ∀ g n cap, v = .slice (some ⟨g, 0, none⟩) n cap → some g ≠ row) : MRow w' v ms := by
  rcases h with h | ⟨g, cap, hv, hc⟩
  · exact Or.inl h
  · exact Or.inr ⟨g, cap, hv, fun j hj => ⟨hg.cell (hc j hj).1 (hne g _ cap hv), hg.cell (hc j hj).2 (hne g _ cap hv)⟩⟩

theorem grownBy_drewN {w w' : World} {row : Option Nat} (h : w.grownBy w' row) {n : Nat} : w.grownBy (w'.drewN n) row := ⟨h.os, h.tape, h.output, h.size, h.block⟩

theorem ownsRow_none {w w' : World} {base : Nat} {e : TypeId} {size : Nat} {v : Value} {n : Nat} {xs : List Value} (h : w.ownsRow base e size v n xs) (hg : w.grownBy w' none) : w'.ownsRow base e size v n xs :=
  h.kept hg (by cases hv : v.ownBlock <;> simp)

/-- The rows of matches that were gathered. -/
def Gathered (w : World) (L : List Bs) (vs : List Value) : Prop := ∀ j, j < vs.length → MRow w (vs.getD j (.slice none 0 0)) (allNear L ((sorted L).getD j []) 3)

theorem self_near (L : List Bs) (hG : Good L) (x : Bs) (hx : x ∈ L) (f : Nat) : (allNear L x f).length ≠ 0 := by
  intro h
  have h0 := (far_self_iff (hG.2 x hx) (hG.2 x hx)).2 rfl
  have hm : (x, 0) ∈ allNear L x f := (allNear_iff L x f _).2 ⟨hx, h0.symm, Nat.zero_le _⟩
  rw [List.length_eq_zero_iff.1 h] at hm
  cases hm

theorem Gathered.kept {w w' : World} {L : List Bs} {vs : List Value} (h : Gathered w L vs) (hg : w.grownBy w' none) : Gathered w' L vs := fun j hj => (h j hj).kept hg

/-- A row of rows is no row of matches. -/
theorem rows_apart {w : World} {base : Nat} {v u : Value} {k : Nat} {vs : List Value} {ms ms0 : List (Bs × Nat)} (hrow : w.ownsRow base 33 1 v k vs) (hk : 0 < k) (hl : vs.length = k) (h0 : MRow w (vs.getD 0 (.slice none 0 0)) ms0) (hu : MRow w u ms) (hms : ms.length ≠ 0) :
    ∀ g n cap, u = .slice (some ⟨g, 0, none⟩) n cap → some g ≠ v.ownBlock := by
  intro g n cap hug e
  rcases hrow.2 with ⟨rfl, hk0⟩ | ⟨gv, capv, cur, rfl, _⟩
  · omega
  · have hgv : g = gv := by simpa [Value.ownBlock] using e
    subst hgv
    rcases hu with ⟨rfl, _⟩ | ⟨g', cap', hu', hc⟩
    · cases hug
    · rw [hu'] at hug
      injection hug with e1
      injection e1 with e2
      injection e2 with e3
      subst e3
      have c1 := (hc 0 (by omega)).1
      rw [Nat.zero_mul, hrow.cellAt 0 (by omega)] at c1
      have e4 : vs.getD 0 (.slice none 0 0) = encStr (ms.getD 0 ([], 0)).1 := by simp [List.getD, c1]
      rw [e4] at h0
      rcases h0 with ⟨h, _⟩ | ⟨_, _, h, _⟩
      · cases h
      · cases h

/-- One row of matches more is gathered. -/
theorem Gathered.more {w w' : World} {base : Nat} {L : List Bs} {v u : Value} {k : Nat} {vs : List Value} (hG : Good L) (hkl : k < L.length) (hrow : w.ownsRow base 33 1 v k vs) (hl : vs.length = k) (h0 : k = 0 → v = .slice none 0 0) (h : Gathered w L vs)
    (hu : MRow w u (allNear L ((sorted L).getD k []) 3)) (hg : w.grownBy w' v.ownBlock) : Gathered w' L (vs ++ [u]) := by
  have apart : ∀ (j : Nat) (y : Value), j < L.length → MRow w y (allNear L ((sorted L).getD j []) 3) → ∀ g n cap, y = .slice (some ⟨g, 0, none⟩) n cap → some g ≠ v.ownBlock := by
    intro j y hj hy g n cap hyg
    by_cases hk : k = 0
    · rw [h0 hk]; simp [Value.ownBlock]
    · exact rows_apart hrow (by omega) hl (h 0 (by omega)) hy (self_near L hG _ (sorted_mem L j hj) 3) g n cap hyg
  intro j hj
  rw [List.length_append] at hj
  simp only [List.length_cons, List.length_nil] at hj
  by_cases hjk : j < k
  · have e : (vs ++ [u]).getD j (.slice none 0 0) = vs.getD j (.slice none 0 0) := by simp [List.getD, List.getElem?_append_left (show j < vs.length by omega)]
    rw [e]
    exact (h j (by omega)).keptRow hg (apart j _ (by omega) (h j (by omega)))
  · obtain rfl : j = k := by omega
    have e : (vs ++ [u]).getD j (.slice none 0 0) = u := by simp [List.getD, hl]
    rw [e]
    exact hu.keptRow hg (apart j u hkl hu)

theorem look_both (L : List Bs) (hn : L.Nodup) (hG : Good L) (a b : Nat) (ha : a < L.length) (hb : b < a) :
    lookM (allNear L ((sorted L).getD b []) 3) ((sorted L).getD a []) = lookM (allNear L ((sorted L).getD a []) 3) ((sorted L).getD b []) ∧ lookM (allNear L ((sorted L).getD a []) 3) ((sorted L).getD b []) ≠ 0 := by
  have hma := sorted_mem L a ha
  have hmb := sorted_mem L b (by omega)
  have hne : (sorted L).getD b [] ≠ (sorted L).getD a [] := by
    have hp := List.pairwise_iff_getElem.1 (sorted_nodup hn) b a (by rw [sorted_length]; omega) (by rw [sorted_length]; omega) hb
    have e1 : (sorted L).getD a [] = (sorted L)[a]'(by rw [sorted_length]; omega) := by simp [List.getD, show a < (sorted L).length by rw [sorted_length]; omega]
    have e2 : (sorted L).getD b [] = (sorted L)[b]'(by rw [sorted_length]; omega) := by simp [List.getD, show b < (sorted L).length by rw [sorted_length]; omega]
    rw [e1, e2]
    exact hp
  generalize (sorted L).getD a [] = x at hma hne ⊢
  generalize (sorted L).getD b [] = y at hmb hne ⊢
  have hwx := hG.2 x hma
  have hwy := hG.2 y hmb
  rw [look_near L y x 3 hn hma, look_near L x y 3 hn hmb]
  have hc : far (runesD y) (runesD x) = far (runesD x) (runesD y) :=
    far_comm _ _ (fun r hr => by have := (wrong_runes hwy).2.2.2 r hr; omega) (fun r hr => by have := (wrong_runes hwx).2.2.2 r hr; omega)
  rw [hc]
  refine ⟨rfl, ?_⟩
  have h0 : far (runesD x) (runesD y) ≠ 0 := fun h => hne ((far_self_iff hwx hwy).1 h).symm
  split <;> omega

set_option maxHeartbeats 2000000 in
set_option maxRecDepth 100000 in
theorem both_any (v : Value) (w : World) (hS : Std w) (hv : Script w v) : Calls Tryz.prog 4 #[v] w fun e w' => e = .returned (.bool true) ∧ w.grownBy w' none := by
  obtain ⟨i0, hi, hz0, hz1, hz2⟩ := info_parts Tryd_info33
  have hT := hS.tabs
  have hGr := hide (grown_any v w hS hv)
  go_enter Tryz.func4, Tryz.ntmps4
  go_wp2_with fail
  refine (unhide hGr).mono ?_
  rintro e w1 ⟨p, L, rfl, hL, hg1⟩
  have hn := hL.nodup
  have hGd := hL.good
  have h40 : L.length ≤ 40 := hGd.1
  have HL := hide hL
  have HT := hide (hT.none hg1)
  have HN := hide hn
  have HGd := hide hGd
  clear hL hT hn hGd hGr hv
  go_wp2_with fail
  refine (prefix_all p L _ (unhide HL)).mono ?_
  rintro e w2 ⟨va, rfl, hrow, hg2⟩
  have HT2 := hide ((unhide HT).none hg2)
  have HL2 := hide ((unhide HL).kept hg2)
  have hg12 := gnone hg1 hg2
  clear HT HL hg1 hg2
  rcases hrow with ⟨rfl, hnil⟩ | ⟨g, cap, rfl, hcells⟩
  · go_wp2
    refine wp_loop_rounds 1 ?_
    rw [rounds_succ]
    go_wp2
    refine wp_loop_rounds 1 ?_
    rw [rounds_succ]
    go_wp2_with (go_at_call 14; refine (alive_any _ (unhide HT2)).mono ?_; rintro e w3 ⟨rfl, hg3⟩)
    go_ret
    exact ⟨rfl, gnone hg12 hg3⟩
  · have hsl := sorted_length L
    rw [hsl] at hcells ⊢
    have HC := hide hcells
    clear hcells hsl
    go_wp2
    go_loopw [5, 6] (fun l i wr => ∃ (k : Nat) (vs : List Value), k ≤ L.length ∧ i = .int .i64 k ∧ vs.length = k ∧ wr.ownsRow w2.heap.size 33 1 l k vs ∧ (k = 0 → l = .slice none 0 0) ∧ Gathered wr L vs ∧ w2.grownBy wr none) (fun _ i _ => L.length - (intOf i).toNat)
    case atStart => exact ⟨0, [], Nat.zero_le _, rfl, rfl, World.ownsRow_nil _ _ _ _, fun _ => rfl, fun j hj => absurd hj (by simp), grownBy_refl _ _⟩
    case round =>
      obtain ⟨k, vs, hk, rfl, hvl, hrow, hk0, hga, hgk⟩ := hrel
      by_cases hlt : k < L.length
      · have hki : (k : Int) < (L.length : Int) := by omega
        have hLk := (unhide HL2).kept hgk
        have hTk := (unhide HT2).none hgk
        have hxm := sorted_mem L k hlt
        have hck := cell_kept (unhide HC k hlt) hgk (by simp)
        generalize hx : (sorted L).getD k [] = x at hxm hck
        have HX := hide hx
        clear hx
        have h3 := near_f p 3 L x wr hLk hTk hxm (by decide)
        have h1 := fun w' (hg : wr.grownBy w' none) => near_f p 1 L x w' (hLk.kept hg) (hTk.none hg) hxm (by decide)
        have H3 := hide h3
        have H1 := hide h1
        have HV := hide hvl
        clear h3 h1 hLk hTk hvl
        go_wp2_with fail
        refine (unhide H3).mono ?_
        rintro e wa ⟨vm, rfl, hm, hga1⟩
        have hcka := cell_kept hck hga1 (by simp)
        go_wp2_with fail
        refine (unhide H1 _ hga1).mono ?_
        rintro e wb ⟨vl, rfl, hml, hga2⟩
        have hmb := hm.kept hga2
        go_wp2_with (go_at_call 13; refine (num_any _ _).mono ?_; rintro e w' ⟨rfl, rfl⟩)
        have hmlen := allNear_len L x 3
        have hpos := self_near L (unhide HGd) x hxm 3
        have hord := fun c h0 hc => allNear_lt L x 3 (unhide HN) c hc h0
        have hlook : ∀ c, c < (allNear L x 3).length → lookM (allNear L x 1) ((allNear L x 3).getD c ([], 0)).1 = if ((allNear L x 3).getD c ([], 0)).2 ≤ 1 then ((((allNear L x 3).getD c ([], 0)).2 : Nat) : Int) else -1 := fun c hc => by
          have hm : (allNear L x 3).getD c ([], 0) ∈ allNear L x 3 := by simp [List.getD, hc]
          obtain ⟨h1, h2, _⟩ := (allNear_iff L x 3 _).1 hm
          rw [look_near L x _ 1 (unhide HN) h1, ← h2]
        have hmlen1 := allNear_len L x 1
        have HM0 := hide hmb
        rcases hmb with ⟨rfl, hnil⟩ | ⟨gm, capm, rfl, hcm⟩
        · exact absurd (by rw [hnil]; rfl) hpos
        generalize hms : allNear L x 3 = ms at hmlen hpos hord hlook HM0 hcm
        have HMS := hide hms
        have HO := hide hord
        have HLK := hide hlook
        have HCM := hide hcm
        clear hms hord hlook hcm hm
        go_loopw [11] (fun i wr => ∃ c : Nat, c + 1 ≤ ms.length ∧ i = .int .i64 ((c : Int) + 1) ∧ w'.grownBy wr none) (fun i _ => ms.length - (intOf i).toNat)
        case atStart => exact ⟨0, by omega, rfl, grownBy_refl _ _⟩
        case round =>
          obtain ⟨c, hcl, rfl, hgc⟩ := hrel
          by_cases hclt : c + 1 < ms.length
          · have hci : (c : Int) + 1 < (ms.length : Int) := by omega
            have hc0i : (0 : Int) ≤ (c : Int) + 1 := by omega
            have hc1i : (c : Int) < (ms.length : Int) := by omega
            have hc2i : (0 : Int) ≤ (c : Int) := by omega
            have hwc := i64w (c : Int) (by omega) (by omega)
            have a0 := cell_kept (unhide HCM (c + 1) hclt).1 hgc (by simp)
            have a1 := cell_kept (unhide HCM (c + 1) hclt).2 hgc (by simp)
            have b0 := cell_kept (unhide HCM c (by omega)).1 hgc (by simp)
            have b1 := cell_kept (unhide HCM c (by omega)).2 hgc (by simp)
            have hlt2 := unhide HO (c + 1) (by omega) hclt
            rw [Nat.add_sub_cancel] at hlt2
            generalize ms.getD (c + 1) ([], 0) = q1 at a0 a1 hlt2
            generalize ms.getD c ([], 0) = q0 at b0 b1 hlt2
            obtain ⟨x1, d1⟩ := q1
            obtain ⟨x0, d0⟩ := q0
            simp only at a0 a1 b0 b1
            rcases hlt2 with hd | ⟨hd, hxx⟩
            · simp only at hd
              have hzz : (d0 : Int) < (d1 : Int) := by omega
              generalize (d0 : Int) = z0 at b1 hzz
              generalize (d1 : Int) = z1 at a1 hzz
              have e1 : decide (z1 < z0) = false := by simp; omega
              have e2 : (z0 == z1) = false := by rw [beq_eq_false_iff_ne]; omega
              go_wp2
              go_quiet (fail)
              clear hwc e1 e2
              go_wp2
              exact ⟨⟨c + 1, by omega, by go_num, gnone hgc (grownBy_drewN (grownBy_refl _ _))⟩, by simp [intOf]; omega⟩
            · simp only at hd hxx
              subst hd
              have hb : Op.bytesLess x0 x1 = true := less_enc hxx
              generalize (d0 : Int) = z0 at b1 a1
              have e1 : decide (z0 < z0) = false := by simp
              have e2 : (z0 == z0) = true := by simp
              go_wp2
              go_quiet (fail)
              clear hwc e1 e2
              go_wp2
              exact ⟨⟨c + 1, by omega, by go_num, gnone hgc (grownBy_drewN (grownBy_refl _ _))⟩, by simp [intOf]; omega⟩
          · go_wp2
            have hmlc := hml.kept hgc
            have hcmc : ∀ j, j < ms.length → wr.cell? ⟨gm, j * 2, none⟩ = some (encStr (ms.getD j ([], 0)).1) ∧ wr.cell? ⟨gm, j * 2 + 1, none⟩ = some (.int .i64 ((ms.getD j ([], 0)).2 : Nat)) := fun j hj => ⟨cell_kept (unhide HCM j hj).1 hgc (by simp), cell_kept (unhide HCM j hj).2 hgc (by simp)⟩
            have HML := hide hmlc
            have HCC := hide hcmc
            clear hmlc hcmc hml
            go_loopw [12, 13] (fun i _ wn => ∃ d : Nat, d ≤ ms.length ∧ i = .int .i64 d ∧ wr.grownBy wn none) (fun i _ _ => ms.length - (intOf i).toNat)
            case atStart => exact ⟨0, Nat.zero_le _, rfl, grownBy_refl _ _⟩
            case round =>
              obtain ⟨d, hdl, rfl, hgd⟩ := hrel
              by_cases hdlt : d < ms.length
              · have hdi : (d : Int) < (ms.length : Int) := by omega
                have a0 := cell_kept (unhide HCC d hdlt).1 hgd (by simp)
                have a1 := cell_kept (unhide HCC d hdlt).2 hgd (by simp)
                have hlk := unhide HLK d hdlt
                generalize ms.getD d ([], 0) = q at a0 a1 hlk
                obtain ⟨x1, z⟩ := q
                simp only at a0 a1 hlk
                have hcall := farOf_any vl (allNear L x 1) x1 _ (by omega) ((unhide HML).kept hgd)
                rw [hlk] at hcall
                have hz0 : (0 : Int) ≤ (z : Int) := by omega
                by_cases hz1 : z ≤ 1
                · rw [if_pos hz1] at hcall
                  have hzi : (z : Int) ≤ 1 := by omega
                  generalize (z : Int) = y at a1 hcall hzi hz0
                  have hy1 : ¬ 1 < y := by omega
                  have HK := hide hcall
                  clear hcall hlk hz1
                  go_wp2_with (go_at_call 15; refine (unhide HK).mono ?_; rintro e w' ⟨rfl, rfl⟩)
                  exact ⟨⟨d + 1, by omega, by go_num, hgd⟩, by simp [intOf]; omega⟩
                · rw [if_neg hz1] at hcall
                  have hzi : ¬ (z : Int) ≤ 1 := by omega
                  generalize (z : Int) = y at a1 hcall hzi hz0
                  have hy1 : 1 < y := by omega
                  have HK := hide hcall
                  clear hcall hlk hz1
                  go_wp2_with (go_at_call 15; refine (unhide HK).mono ?_; rintro e w' ⟨rfl, rfl⟩)
                  exact ⟨⟨d + 1, by omega, by go_num, hgd⟩, by simp [intOf]; omega⟩
              · have hchain := gnone (gnone (gnone hga1 hga2) hgc) hgd
                have hrow4 := ownsRow_none hrow hchain
                have hga4 := hga.kept hchain
                have hm4 := ((unhide HM0).kept hgc).kept hgd
                have hw4 := gnone hgk hchain
                have hs4 := hw4.size
                go_wp2_with (first
                  | (at_builtin; refine wpList_append_own _ rfl _ _ 41 rfl w2.heap.size 33 i0 _ 1 24 Tryz.underlying41 hi hz0 hz1 hz2 rfl (by decide) _ _ _ rfl (hrow4.alloc _) ⟨wr.heap.size, 0, none⟩ 1 1 [.slice (some ⟨gm, 0, none⟩) ms.length capm] rfl rfl (one_new _ _ _) (by intro u hu; simp at hu; subst hu; rfl) (by unfold maxLen; omega) (by omega) (by simp; omega) ?_; intro v' w5 hown5 hg5 hnil5)
                  | go_in)
                have hal := grownBy_none_alloc wr (.cells #[.slice (some ⟨gm, 0, none⟩) ms.length capm] 33)
                refine ⟨⟨k + 1, vs ++ [.slice (some ⟨gm, 0, none⟩) ms.length capm], by omega, by go_num, by rw [List.length_append, unhide HV]; rfl, hown5, fun h => by omega, ?_, ?_⟩, by simp [intOf]; omega⟩
                · exact Gathered.more (unhide HGd) hlt (hrow4.alloc _) (unhide HV) hk0 (hga4.kept hal) (by rw [unhide HX, unhide HMS]; exact hm4.kept hal) hg5
                · exact gnew (gnone hw4 hal) hg5 (fun j hj => (hrow4.lt j hj).1)
      · obtain rfl : k = L.length := by omega
        obtain ⟨wB, rfl⟩ : ∃ wB, wB = wr := ⟨wr, rfl⟩
        rcases hrow.2 with ⟨rfl, hz⟩ | ⟨gn, capn, cur, rfl, _⟩
        · rw [hz]
          go_wp2
          refine wp_loop_rounds 1 ?_
          rw [rounds_succ]
          go_wp2_with (go_at_call 14; refine (alive_any _ ((unhide HT2).none hgk)).mono ?_; rintro e w3 ⟨rfl, hg3⟩)
          go_ret
          exact ⟨rfl, gnone (gnone hg12 hgk) hg3⟩
        · have hcn : ∀ j, j < L.length → wB.cell? ⟨gn, j, none⟩ = some (vs.getD j (.slice none 0 0)) := fun j hj => by
            rw [hrow.cellAt j (by omega)]
            simp [List.getD, show j < vs.length by omega]
          have HCN := hide hcn
          have HGA := hide hga
          have HTk := hide ((unhide HT2).none hgk)
          have HCk := hide (show ∀ j, j < L.length → wB.cell? ⟨g, j, none⟩ = some (encStr ((sorted L).getD j [])) from fun j hj => cell_kept (unhide HC j hj) hgk (by simp))
          have HVL := hide hvl
          have hg1k := gnone hg12 hgk
          clear hcn hga hrow hk0 hvl hgk hg12 HT2 HC HL2
          go_wp2
          go_loopw [14] (fun i wn => ∃ a : Nat, a ≤ L.length ∧ i = .int .i64 a ∧ wB.grownBy wn none) (fun i _ => L.length - (intOf i).toNat)
          case atStart => exact ⟨0, Nat.zero_le _, rfl, grownBy_refl _ _⟩
          case round =>
            obtain ⟨a, ha, rfl, hga⟩ := hrel
            by_cases halt : a < L.length
            · have hai : (a : Int) < (L.length : Int) := by omega
              go_wp2
              go_loopw [15] (fun i wm => ∃ b : Nat, b ≤ a ∧ i = .int .i64 b ∧ wB.grownBy wm none) (fun i _ => a - (intOf i).toNat)
              case atStart => exact ⟨0, Nat.zero_le _, rfl, hga⟩
              case round =>
                obtain ⟨b, hb, rfl, hgb⟩ := hrel
                by_cases hblt : b < a
                · have hbi : (b : Int) < (a : Int) := by omega
                  have hbl : (b : Int) < (L.length : Int) := by omega
                  have hb0 : (0 : Int) ≤ (b : Int) := by omega
                  have ha0 : (0 : Int) ≤ (a : Int) := by omega
                  obtain ⟨hsame, hne⟩ := look_both L (unhide HN) (unhide HGd) a b halt hblt
                  have na := cell_kept (unhide HCN a halt) hgb (by simp)
                  have nb := cell_kept (unhide HCN b (by omega)) hgb (by simp)
                  have xa := cell_kept (unhide HCk a halt) hgb (by simp)
                  have xb := cell_kept (unhide HCk b (by omega)) hgb (by simp)
                  have ca := fun w' (hw : wB.grownBy w' none) => farOf_any (vs.getD a (.slice none 0 0)) (allNear L ((sorted L).getD a []) 3) ((sorted L).getD b []) w' (Nat.le_trans (allNear_len _ _ _) h40) (((unhide HGA) a (by rw [unhide HVL]; omega)).kept hw)
                  have cb := fun w' (hw : wB.grownBy w' none) => farOf_any (vs.getD b (.slice none 0 0)) (allNear L ((sorted L).getD b []) 3) ((sorted L).getD a []) w' (Nat.le_trans (allNear_len _ _ _) h40) (((unhide HGA) b (by rw [unhide HVL]; omega)).kept hw)
                  rw [hsame] at cb
                  generalize lookM (allNear L ((sorted L).getD a []) 3) ((sorted L).getD b []) = r at ca cb hne
                  generalize (sorted L).getD a [] = x at ca cb xa
                  generalize (sorted L).getD b [] = y at ca cb xb
                  generalize vs.getD a (.slice none 0 0) = ua at ca na
                  generalize vs.getD b (.slice none 0 0) = ub at cb nb
                  have hr0 : (r == 0) = false := by simpa using hne
                  have CA := hide (ca _ (grownBy_drew hgb))
                  have CB := hide (cb _ (grownBy_drew (grownBy_drew hgb)))
                  clear ca cb hsame hne
                  go_wp2
                  go_region_held3 (fun w' => w'.cell? ⟨gn, a, none⟩ = some ua ∧ w'.cell? ⟨g, b, none⟩ = some (encStr y)) (go_keep) ((go_at_call 15; refine (unhide CA).mono ?_; rintro e w' ⟨rfl, rfl⟩))
                  go_wp2
                  go_region_held3 (fun w' => w'.cell? ⟨gn, b, none⟩ = some ub ∧ w'.cell? ⟨g, a, none⟩ = some (encStr x)) (go_keep) ((go_at_call 15; refine (unhide CB).mono ?_; rintro e w' ⟨rfl, rfl⟩))
                  go_wp2
                  exact ⟨⟨b + 1, by omega, by go_num, grownBy_drew (grownBy_drew hgb)⟩, by simp [intOf]; omega⟩
                · go_wp2
                  exact ⟨⟨a + 1, by omega, by go_num, hgb⟩, by simp [intOf]; omega⟩
            · go_wp2_with (go_at_call 14; refine (alive_any _ ((unhide HTk).none hga)).mono ?_; rintro e w3 ⟨rfl, hg3⟩)
              go_ret
              exact ⟨rfl, gnone (gnone hg1k hga) hg3⟩

end Go.Proofs.YtdfnngehhiociaaGreatDoor
