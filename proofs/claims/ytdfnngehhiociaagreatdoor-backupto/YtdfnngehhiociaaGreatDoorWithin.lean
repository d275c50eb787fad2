import Derived.Test.YtdfnngehhiociaaGreatDoorHow
import Derived.Test.YtdfnngehhiociaaGreatDoorAsk
import Derived.Deep.RegionWith
namespace Go.Proofs.YtdfnngehhiociaaGreatDoor
open Go.RowKit Go.Maps Go.WideMaps
open Go.Proofs (encStr)

/-- Block b of w is a map from just these words to how far they are. -/
def IsFound (w : World) (b : Nat) (M : List (Bs × Nat)) : Prop :=
  ∃ D : DataW Unit, w.ownsMap Tryz.prog 9 (plainElem Tryz.prog 3) b M.length D ∧ (M.map Prod.fst).Nodup ∧ (∀ s, has D (.string s) = true ↔ s ∈ M.map Prod.fst) ∧
    (∀ q ∈ M, ∀ z, D.atKey (.string q.1) z = .lit (.int .i64 (q.2 : Nat))) ∧ Maps.size D = M.length

theorem IsFound.lt {w : World} {b : Nat} {M : List (Bs × Nat)} (h : IsFound w b M) : b < w.heap.size := by
  obtain ⟨D, h, _⟩ := h; exact h.lt
theorem IsFound.made (w : World) : IsFound (w.alloc (.map #[] 0)) w.heap.size [] :=
  ⟨.map [], World.ownsMap_made _ _ _ _, List.nodup_nil, fun s => by simp [has_eq], fun q hq z => absurd hq (by simp), rfl⟩
theorem IsFound.kept {w w' : World} {b : Nat} {M : List (Bs × Nat)} {row : Option Nat} (h : IsFound w b M) (hg : w.grownBy w' row) (hne : some b ≠ row) : IsFound w' b M := by
  obtain ⟨D, h1, h2⟩ := h
  exact ⟨D, h1.kept hg hne, h2⟩
theorem IsFound.perm {w : World} {b : Nat} {M M' : List (Bs × Nat)} (h : IsFound w b M) (hp : M.Perm M') : IsFound w b M' := by
  obtain ⟨D, h1, h2, h3, h4, h5⟩ := h
  have hk := hp.map Prod.fst
  exact ⟨D, by rw [← hp.length_eq]; exact h1, hk.nodup_iff.1 h2, fun s => (h3 s).trans hk.mem_iff, fun q hq => h4 q (hp.mem_iff.2 hq), h5.trans hp.length_eq⟩

theorem IsFound.put {w w' : World} {b : Nat} {M : List (Bs × Nat)} {D : DataW Unit} {x : Bs} {d : Nat} (h1 : w.ownsMap Tryz.prog 9 (plainElem Tryz.prog 3) b M.length D) (h2 : (M.map Prod.fst).Nodup)
    (h3 : ∀ s, has D (.string s) = true ↔ s ∈ M.map Prod.fst) (h4 : ∀ q ∈ M, ∀ z, D.atKey (.string q.1) z = .lit (.int .i64 (q.2 : Nat))) (h5 : Maps.size D = M.length) (hx : x ∉ M.map Prod.fst) {n : Nat}
    (hown : w'.ownsMap Tryz.prog 9 (plainElem Tryz.prog 3) b n (D.put (.string x) (.lit (.int .i64 (d : Nat))))) : IsFound w' b (M ++ [(x, d)]) := by
  have hnot : has D (.string x) = false := by
    cases hc : has D (.string x) with
    | false => rfl
    | true => exact absurd ((h3 _).1 hc) hx
  have hsz : Maps.size (D.put (.string x) (.lit (.int .i64 (d : Nat)))) = (M ++ [(x, d)]).length := by
    rw [size_put (h1.tidy law9), hnot]; simp [h5]
  refine ⟨_, ownsMap_tight hown (Nat.le_of_eq hsz), ?_, ?_, ?_, hsz⟩
  · rw [List.map_append]
    exact List.nodup_append.2 ⟨h2, by simp, fun a ha c hc => by simp at hc; subst hc; exact fun e => hx (e ▸ ha)⟩
  · intro t
    rw [List.map_append]
    by_cases ht : t = x
    · subst ht
      have := has_put_same (D := D) (k := .string t) h1.isMap (by simp [WideAt.IsKeyLit]) (.lit (.int .i64 (d : Nat)))
      simp [this]
    · have hne : Lit.string t ≠ Lit.string x := fun e => ht (by injection e)
      rw [has_put_other hne, h3]
      simp [ht]
  · intro q hq z
    rcases List.mem_append.1 hq with hq | hq
    · have hne : q.1 ≠ x := fun e => hx (e ▸ List.mem_map_of_mem hq)
      rw [atKey_put_other (fun e => hne (by injection e))]
      exact h4 q hq z
    · simp at hq
      subst hq
      exact atKey_put_same h1.isMap (by simp [WideAt.IsKeyLit]) _ _

set_option maxHeartbeats 400000 in
set_option maxRecDepth 100000 in
theorem within1_any (a : List Int) (g cap c1 c2 c3 b f : Nat) (x : ByteArray) (M : List (Bs × Nat)) (w : World) (ha : a.length ≤ 10) (hr : w.cell? ⟨c1, 0, none⟩ = some (.slice (some ⟨g, 0, none⟩) a.length cap))
    (hcells : ∀ j, j < a.length → w.cell? ⟨g, 0 + j, none⟩ = some (.int .i32 (a.getD j 0))) (hf : w.cell? ⟨c2, 0, none⟩ = some (.int .i64 f)) (hm : w.cell? ⟨c3, 0, none⟩ = some (.map (some b)))
    (hM : IsFound w b M) (hx : bs x ∉ M.map Prod.fst) (hxs : x.size ≤ 281474976710656) (hML : M.length < 281474976710656) (hd : far a (runesD (bs x)) ≤ 281474976710656) :
    Calls Tryz.prog 54 #[.string x, .pointer (some ⟨c1, 0, none⟩), .pointer (some ⟨c2, 0, none⟩), .pointer (some ⟨c3, 0, none⟩)] w fun e w' =>
      e = .returned (.tuple #[]) ∧ IsFound w' b (if far a (runesD (bs x)) ≤ f then M ++ [(bs x, far a (runesD (bs x)))] else M) ∧ w.grownBy w' (some b) := by
  have hH := howFar_any g 0 cap a x w ha hcells hxs
  generalize far a (runesD (bs x)) = d at hH hd ⊢
  have HH := hide hH
  clear hH
  by_cases hle : d ≤ f
  · rw [if_pos hle]
    have hlei : (d : Int) ≤ (f : Int) := by omega
    obtain ⟨D, h1, h2, h3, h4, h5⟩ := hM
    have hkey := keyOf_string_mk (P := Tryz.prog) Tryz.underlying9 (s := x) (by unfold maxLen; omega)
    go_enter Tryz.func54, Tryz.ntmps54
    go_wp2_with fail
    refine (unhide HH).mono ?_
    rintro e w1 ⟨rfl, hg1⟩
    have hf1 := cell_kept hf hg1 (by simp)
    have hm1 := cell_kept hm hg1 (by simp)
    have hd1 : w1.drew.ownsMap Tryz.prog 9 (plainElem Tryz.prog 3) b M.length D := (h1.kept hg1 (by simp)).drew
    have hmd : w1.drew.cell? ⟨c3, 0, none⟩ = some (.map (some b)) := hm1
    have hwf : (Lit.int .i64 (d : Int)).wf = true := WalkArith.wf_i64 (by omega)
    have hML' : M.length < maxLen := by unfold maxLen; omega
    have HD := hide hd1
    have HM := hide hmd
    clear hd1 hmd
    go_wp2
    go_region_with ((go_at_call 56; refine (clone_any _ _ hxs).mono ?_; rintro e w2 ⟨rfl, hg2⟩; have hm2 := cell_kept (unhide HM) hg2 (show some c3 ≠ none by simp); obtain ⟨w3, hrun, hown3, hg3⟩ := ((unhide HD).kept hg2 (show some b ≠ none by simp)).update law9 Tryz.underlying63 hML' hkey (plainElem_int (H := Unit) Tryz.underlying3 hwf)))
    all_goals
      go_wp2
      go_end0
      exact ⟨rfl, IsFound.put h1 h2 h3 h4 h5 hx hown3, gtrans ((gnone (grownBy_drew hg1) hg2).but _) hg3⟩
  · rw [if_neg hle]
    have hlei : ¬ (d : Int) ≤ (f : Int) := by omega
    go_enter Tryz.func54, Tryz.ntmps54
    go_wp2_with fail
    refine (unhide HH).mono ?_
    rintro e w1 ⟨rfl, hg1⟩
    have hf1 := cell_kept hf hg1 (by simp)
    go_wp2
    go_end0
    exact ⟨rfl, hM.kept hg1 (by simp), hg1.but _⟩

/-- The words that are at most so far, each with how far it is. -/
def foundL (a : List Int) (f : Nat) (L : List Bs) : List (Bs × Nat) := (L.map (fun y => (y, far a (runesD y)))).filter (fun q => decide (q.2 ≤ f))

theorem foundL_snoc (a : List Int) (f : Nat) (L : List Bs) (x : Bs) : foundL a f (L ++ [x]) = if far a (runesD x) ≤ f then foundL a f L ++ [(x, far a (runesD x))] else foundL a f L := by
  unfold foundL
  rw [List.map_append, List.filter_append]
  by_cases h : far a (runesD x) ≤ f <;> simp [h]
theorem foundL_mem (a : List Int) (f : Nat) (L : List Bs) (x : Bs) (h : x ∈ (foundL a f L).map Prod.fst) : x ∈ L := by
  obtain ⟨q, hq, rfl⟩ := List.mem_map.1 h
  obtain ⟨y, hy, rfl⟩ := List.mem_map.1 (List.mem_filter.1 hq).1
  exact hy
theorem foundL_le (a : List Int) (f : Nat) (L : List Bs) : (foundL a f L).length ≤ L.length := by
  unfold foundL
  have := List.length_filter_le (fun q : Bs × Nat => decide (q.2 ≤ f)) (L.map (fun y => (y, far a (runesD y))))
  simpa using this

theorem runesFrom_eq (s : ByteArray) : ∀ (n i : Nat) (acc : Array Value), Conv.runesFrom s n i acc = acc ++ ((runesF n ((bs s).drop i)).map (Value.int .i32)).toArray
  | 0, i, acc => by simp [Conv.runesFrom, runesF]
  | n + 1, i, acc => by
    unfold Conv.runesFrom runesF
    by_cases h : i < s.size
    · rw [if_pos h, if_neg (drop_ne s i h), Lib.decodeL_drop, List.drop_drop]
      show Conv.runesFrom s n (i + (Utf8.decode s i).2) (acc.push (.int .i32 (Int.ofNat (Utf8.decode s i).1))) = _
      rw [runesFrom_eq s n]
      simp
    · rw [if_neg h, if_pos (drop_end s i h)]
      simp

theorem runesFrom_all (s : ByteArray) : Conv.runesFrom s s.size 0 #[] = ((runesD (bs s)).map (Value.int .i32)).toArray := by
  rw [runesFrom_eq, List.drop_zero]
  unfold runesD
  rw [show (bs s).length = s.size from Array.length_toList]
  simp

theorem far_bound (a b : List Int) : far a b ≤ a.length + b.length := by
  have h : ∀ (b : List Int) (n : Nat) (bf hr : Nat → Nat) (last : Int), (∀ i, hr i ≤ i + n) → runRows a bf hr last b ≤ a.length + n + b.length := by
    intro b
    induction b with
    | nil => intro n bf hr last hh; exact hh _
    | cons r rs ih =>
      intro n bf hr last hh
      have := ih (n + 1) hr (stepRow a bf hr last r) r (stepRow_le a bf hr last r n hh)
      unfold runRows
      simp only [List.length_cons]
      omega
  exact h b 0 (fun _ => 0) id 0 (fun i => Nat.le_refl _)

theorem size_mk (y : Bs) : (⟨y.toArray⟩ : ByteArray).size = y.length := by simp [ByteArray.size]

/-- What lies there when the words are gone through. -/
theorem within_world (w : World) (f : Nat) (rs : List Int) (z cap : Nat) :
    ∃ W, (((((w.alloc (.cells #[.int .i64 (f : Nat)] 3)).alloc (.map #[] 0)).alloc (.cells #[.map (some (w.heap.size + 1))] 63)).alloc (.cells ((rs.map (Value.int .i32)).toArray ++ Array.replicate z (.int .i32 0)) 21)).alloc
        (.cells #[.slice (some ⟨w.heap.size + 1 + 1 + 1, 0, none⟩) rs.length cap] 83)).drew = W ∧
      W.cell? ⟨w.heap.size, 0, none⟩ = some (.int .i64 (f : Nat)) ∧ IsFound W (w.heap.size + 1) [] ∧ W.cell? ⟨w.heap.size + 1 + 1, 0, none⟩ = some (.map (some (w.heap.size + 1))) ∧
      (∀ j, j < rs.length → W.cell? ⟨w.heap.size + 1 + 1 + 1, 0 + j, none⟩ = some (.int .i32 (rs.getD j 0))) ∧
      W.cell? ⟨w.heap.size + 1 + 1 + 1 + 1, 0, none⟩ = some (.slice (some ⟨w.heap.size + 1 + 1 + 1, 0, none⟩) rs.length cap) ∧ w.grownBy W none ∧ W.heap.size = w.heap.size + 1 + 1 + 1 + 1 + 1 := by
  have h0 : (w.alloc (.cells #[.int .i64 (f : Nat)] 3)).cell? ⟨w.heap.size, 0, none⟩ = some (.int .i64 (f : Nat)) := by go_simp
  have g0 := grownBy_none_alloc w (.cells #[.int .i64 (f : Nat)] 3)
  have s0 : (w.alloc (.cells #[.int .i64 (f : Nat)] 3)).heap.size = w.heap.size + 1 := by simp
  generalize w.alloc (.cells #[.int .i64 (f : Nat)] 3) = w1 at h0 g0 s0 ⊢
  have m1 := IsFound.made w1
  rw [s0] at m1
  have g1 := grownBy_none_alloc w1 (.map #[] 0)
  have s1 : (w1.alloc (.map #[] 0)).heap.size = w.heap.size + 1 + 1 := by simp [s0]
  generalize w1.alloc (.map #[] 0) = w2 at m1 g1 s1 ⊢
  have c2 : (w2.alloc (.cells #[.map (some (w.heap.size + 1))] 63)).cell? ⟨w.heap.size + 1 + 1, 0, none⟩ = some (.map (some (w.heap.size + 1))) := by
    rw [← s1]; go_simp
  have g2 := grownBy_none_alloc w2 (.cells #[.map (some (w.heap.size + 1))] 63)
  have s2 : (w2.alloc (.cells #[.map (some (w.heap.size + 1))] 63)).heap.size = w.heap.size + 1 + 1 + 1 := by simp [s1]
  generalize w2.alloc (.cells #[.map (some (w.heap.size + 1))] 63) = w3 at c2 g2 s2 ⊢
  have c3 : ∀ j, j < rs.length → (w3.alloc (.cells ((rs.map (Value.int .i32)).toArray ++ Array.replicate z (.int .i32 0)) 21)).cell? ⟨w.heap.size + 1 + 1 + 1, 0 + j, none⟩ = some (.int .i32 (rs.getD j 0)) := by
    intro j hj
    rw [← s2, cell_of_row _ _ _ _ 21 (0, 0) (Go.heap_alloc_new w3 _), Nat.zero_add]
    rw [Array.getElem?_append_left (by simpa using hj)]
    simp [List.getD, hj]
  have g3 := grownBy_none_alloc w3 (.cells ((rs.map (Value.int .i32)).toArray ++ Array.replicate z (.int .i32 0)) 21)
  have s3 : (w3.alloc (.cells ((rs.map (Value.int .i32)).toArray ++ Array.replicate z (.int .i32 0)) 21)).heap.size = w.heap.size + 1 + 1 + 1 + 1 := by simp [s2]
  generalize w3.alloc (.cells ((rs.map (Value.int .i32)).toArray ++ Array.replicate z (.int .i32 0)) 21) = w4 at c3 g3 s3 ⊢
  have c4 : (w4.alloc (.cells #[.slice (some ⟨w.heap.size + 1 + 1 + 1, 0, none⟩) rs.length cap] 83)).cell? ⟨w.heap.size + 1 + 1 + 1 + 1, 0, none⟩ = some (.slice (some ⟨w.heap.size + 1 + 1 + 1, 0, none⟩) rs.length cap) := by
    rw [← s3]; go_simp
  have g4 := grownBy_none_alloc w4 (.cells #[.slice (some ⟨w.heap.size + 1 + 1 + 1, 0, none⟩) rs.length cap] 83)
  have s4 : (w4.alloc (.cells #[.slice (some ⟨w.heap.size + 1 + 1 + 1, 0, none⟩) rs.length cap] 83)).heap.size = w.heap.size + 1 + 1 + 1 + 1 + 1 := by simp [s3]
  generalize w4.alloc (.cells #[.slice (some ⟨w.heap.size + 1 + 1 + 1, 0, none⟩) rs.length cap] 83) = w5 at c4 g4 s4 ⊢
  refine ⟨_, rfl, ?_, ?_, ?_, ?_, c4, grownBy_drew (gnone (gnone (gnone (gnone g0 g1) g2) g3) g4), s4⟩
  · exact cell_kept (cell_kept (cell_kept (cell_kept h0 g1 (by simp)) g2 (by simp)) g3 (by simp)) (grownBy_drew g4) (by simp)
  · exact ((m1.kept g2 (by simp)).kept g3 (by simp)).kept (grownBy_drew g4) (by simp)
  · exact cell_kept (cell_kept c2 g3 (by simp)) (grownBy_drew g4) (by simp)
  · exact fun j hj => cell_kept (c3 j hj) (grownBy_drew g4) (by simp)

set_option maxHeartbeats 1000000 in
set_option maxRecDepth 100000 in
/-- 'within'. -/
theorem within_any (b f : Nat) (x : ByteArray) (L : List Bs) (w : World) (hS : IsSet w b L) (hG : Good L) (hx : wrong (bs x) = 0) :
    Calls Tryz.prog 32 #[.map (some b), .string x, .int .i64 f] w fun e w' => ∃ b', e = .returned (.map (some b')) ∧ IsFound w' b' (foundL (runesD (bs x)) f L) ∧ w.heap.size ≤ b' ∧ w.grownBy w' none := by
  have hmm := @run_makeMap Tryz.prog
  have hrx := wrong_runes hx
  have hsz : x.size = (bs x).length := (Array.length_toList (xs := x.data)).symm
  have hxl := wrong_len hx
  have h40 := hG.1
  have hcv := fun w => run_runes_of_string (P := Tryz.prog) w 9 83 21 x Tryz.underlying9 Tryz.underlying83 Tryz.underlying21 (by rw [runesFrom_all]; simp; omega)
  simp only [runesFrom_all] at hcv
  have ha := hrx.2.2.1
  obtain ⟨rs, hrs⟩ : ∃ rs, runesD (bs x) = rs := ⟨_, rfl⟩
  rw [hrs] at ha ⊢
  simp only [hrs] at hcv
  have hblt := hS.lt
  clear hrx hsz hxl hx hrs
  go_enter Tryz.func32, Tryz.ntmps32
  go_wp2_with fail
  obtain ⟨W, hW, c0, m1, c2, c3, c4, hgW, hsW⟩ := within_world w f rs
    (grownCap (((w.alloc (.cells #[.int .i64 (f : Nat)] 3)).alloc (.map #[] 0)).alloc (.cells #[.map (some (w.heap.size + 1))] 63)) rs.length 0 21 - rs.length)
    (grownCap (((w.alloc (.cells #[.int .i64 (f : Nat)] 3)).alloc (.map #[] 0)).alloc (.cells #[.map (some (w.heap.size + 1))] 63)) rs.length 0 21)
  rw [hW]
  generalize grownCap (((w.alloc (.cells #[.int .i64 (f : Nat)] 3)).alloc (.map #[] 0)).alloc (.cells #[.map (some (w.heap.size + 1))] 63)) rs.length 0 21 = cap at c4
  clear hW hcv
  have hE := each_any b L 54 #[.pointer (some ⟨w.heap.size + 1 + 1 + 1 + 1, 0, none⟩), .pointer (some ⟨w.heap.size, 0, none⟩), .pointer (some ⟨w.heap.size + 1 + 1, 0, none⟩)] (some (w.heap.size + 1))
    (fun ss w1 => IsFound w1 (w.heap.size + 1) (foundL rs f ss) ∧ w1.cell? ⟨w.heap.size, 0, none⟩ = some (.int .i64 (f : Nat)) ∧ w1.cell? ⟨w.heap.size + 1 + 1, 0, none⟩ = some (.map (some (w.heap.size + 1))) ∧
      (∀ j, j < rs.length → w1.cell? ⟨w.heap.size + 1 + 1 + 1, 0 + j, none⟩ = some (.int .i32 (rs.getD j 0))) ∧
      w1.cell? ⟨w.heap.size + 1 + 1 + 1 + 1, 0, none⟩ = some (.slice (some ⟨w.heap.size + 1 + 1 + 1, 0, none⟩) rs.length cap)) W (hS.kept hgW (by simp))
    (fun ss w1 w2 r ⟨i1, i2, i3, i4, i5⟩ hg hr => by
      rw [hsW] at hr
      exact ⟨i1.kept hg (fun e => by have := Option.some.inj e; omega), cell_kept i2 hg (fun e => by have := Option.some.inj e; omega), cell_kept i3 hg (fun e => by have := Option.some.inj e; omega),
        fun j hj => cell_kept (i4 j hj) hg (fun e => by have := Option.some.inj e; omega), cell_kept i5 hg (fun e => by have := Option.some.inj e; omega)⟩)
    ⟨m1, c0, c2, c3, c4⟩ (fun j hj => by cases hj; rw [hsW]; omega) (enters_of Tryz.func54 (by kernel_rfl) rfl)
    (fun y ss w1 hy hn hss ⟨i1, i2, i3, i4, i5⟩ hg => by
      have hwy := hG.2 y hy
      have hle := foundL_le rs f ss
      have hfb := far_bound rs (runesD y)
      have hyr := (wrong_runes hwy).2.2.1
      have hyl := wrong_len hwy
      have e1 : bs ⟨y.toArray⟩ = y := by simp
      have hc := within1_any rs (w.heap.size + 1 + 1 + 1) cap (w.heap.size + 1 + 1 + 1 + 1) w.heap.size (w.heap.size + 1 + 1) (w.heap.size + 1) f ⟨y.toArray⟩ (foundL rs f ss) w1 ha i5 i4 i2 i3 i1
        (fun hm => hn (by rw [e1] at hm; exact foundL_mem _ _ _ _ hm)) (by rw [size_mk]; omega) (by omega) (by rw [e1]; omega)
      rw [e1, ← foundL_snoc] at hc
      refine hc.mono ?_
      rintro e w2 ⟨rfl, j1, j2⟩
      exact ⟨rfl, ⟨j1, cell_kept i2 j2 (fun e => by have := Option.some.inj e; omega), cell_kept i3 j2 (fun e => by have := Option.some.inj e; omega), fun j hj => cell_kept (i4 j hj) j2 (fun e => by have := Option.some.inj e; omega), cell_kept i5 j2 (fun e => by have := Option.some.inj e; omega)⟩, j2⟩)
  refine hE.mono ?_
  clear hE
  rintro e w1 ⟨rfl, ss, hp, ⟨j1, j2, j3, j4, j5⟩, hg⟩
  go_wp2
  go_ret
  exact ⟨_, rfl, j1.perm ((hp.map _).filter _), by omega, gnew hgW hg (fun j hj => by cases hj; omega)⟩

end Go.Proofs.YtdfnngehhiociaaGreatDoor
