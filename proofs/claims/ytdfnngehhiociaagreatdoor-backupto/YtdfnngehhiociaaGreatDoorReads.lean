import Derived.Test.YtdfnngehhiociaaGreatDoorGives
import Derived.Test.YtdfnngehhiociaaGreatDoorPure
namespace Go.Proofs.YtdfnngehhiociaaGreatDoor
open Go.RowKit
open Go.Proofs (encStr)

/-- How a part's reading ends. -/
def ReadPost (n0 p : Nat) (w : World) (r : Option (Nat × Rd)) (e : Ending) (w' : World) : Prop :=
  Below n0 w w' ∧ match r with
    | none => e = .panicked Up
    | some n => e = .returned (.int .i64 (n.1 : Nat)) ∧ RdAt n0 p w' n.2

theorem RdAt.cells {n0 p : Nat} {w : World} {q : Rd} (h : RdAt n0 p w q) : w.cell? ⟨p, 0, none⟩ = some (encStr q.left) ∧ w.cell? ⟨p, 1, none⟩ = some (.int .i64 (q.count : Nat)) ∧ w.cell? ⟨p, 2, none⟩ = some (.int .i32 q.rune) ∧ ∀ k, w.frozen? ⟨p, k, none⟩ = false := by
  obtain ⟨gv, vs, h1, _⟩ := h.has
  refine ⟨?_, ?_, ?_, fun k => ?_⟩
  · rw [cell_of_row _ _ _ _ _ _ h1]; rfl
  · rw [cell_of_row _ _ _ _ _ _ h1]; rfl
  · rw [cell_of_row _ _ _ _ _ _ h1]; rfl
  · simp [World.frozen?, h1]

theorem RdAt.later {n0 p : Nat} {w w' : World} {q : Rd} (h : RdAt n0 p w q) (hg : w.grownBy w' none) : RdAt n0 p w' q := by
  obtain ⟨gv, vs, h1, h2⟩ := h.has
  exact ⟨h.lo, gv, vs, (hg.block p (Array.getElem?_eq_some_iff.1 h1).1 (by simp)).trans h1, h2.later hg⟩

theorem below_set {n0 p k : Nat} {w W : World} {v : Value} (hg : w.grownBy W none) (hn : n0 ≤ w.heap.size) (hp : n0 ≤ p) : Below n0 w (W.setCell ⟨p, k, none⟩ v) :=
  ((grownBy_below hg).mono hn).trans ((Below.refl n0 W).setCell (p := ⟨p, k, none⟩) hp _)

theorem Tabs.under {n0 : Nat} {w w' : World} (h : Tabs w) (hb : Below n0 w w') (h5 : 5 < n0) : Tabs w' := by
  obtain ⟨h1, h2⟩ := h
  exact ⟨fun c hc => (hb.cell (p := ⟨0, c, Option.none⟩) (by show 0 < n0; omega)).trans (h1 c hc), fun i hi => ⟨(hb.cell (p := ⟨1, 2 * i, Option.none⟩) (by show 1 < n0; omega)).trans (h2 i hi).1, (hb.cell (p := ⟨1, 2 * i + 1, Option.none⟩) (by show 1 < n0; omega)).trans (h2 i hi).2⟩⟩

theorem Errs.below {n0 : Nat} {w w' : World} (h : Errs w) (hb : Below n0 w w') (h5 : 5 < n0) : Errs w' := by
  obtain ⟨⟨e1, h1, h2⟩, e2, h3, h4⟩ := h
  exact ⟨⟨e1, (hb.cell (p := ⟨4, 0, none⟩) (by show 4 < n0; omega)).trans h1, h2⟩, e2, (hb.cell (p := ⟨5, 0, none⟩) h5).trans h3, h4⟩

set_option maxHeartbeats 400000 in
set_option maxRecDepth 100000 in
theorem read_head (n0 p : Nat) (q : Rd) (w : World) (h : RdAt n0 p w q) (hn : n0 ≤ w.heap.size) :
    Calls Tryz.prog 63 #[.pointer (some ⟨p, 0, none⟩), .int .i64 0] w (ReadPost n0 p w (readP 0 q)) := by
  obtain ⟨c0, _, _, hf⟩ := h.cells
  show Calls _ _ _ _ (ReadPost n0 p w ((takeP [103, 108, 111, 115, 115] q.left).map fun l => (1, { q with left := l })))
  cases ht : takeP [103, 108, 111, 115, 115] q.left with
  | none =>
    have HT := hide (take_fail p _ _ w c0 ht)
    go_enter Tryz.func63, Tryz.ntmps63
    go_wp2_with fail
    refine (unhide HT).mono ?_
    rintro e w' ⟨rfl, rfl⟩
    exact ⟨rfl, Below.refl _ _, rfl⟩
  | some m =>
    have HT := hide (take_ok p _ _ m w c0 (hf 0) ht)
    go_enter Tryz.func63, Tryz.ntmps63
    go_wp2_with fail
    refine (unhide HT).mono ?_
    rintro e w' ⟨rfl, rfl⟩
    go_wp2_with fail
    go_ret
    exact ⟨below_set (grownBy_refl _ _) hn h.lo, rfl, h.left (grownBy_refl _ _) m⟩

set_option maxHeartbeats 400000 in
set_option maxRecDepth 100000 in
theorem read_end (n0 p : Nat) (q : Rd) (w : World) (h : RdAt n0 p w q) (hn : n0 ≤ w.heap.size) :
    Calls Tryz.prog 63 #[.pointer (some ⟨p, 0, none⟩), .int .i64 5] w (ReadPost n0 p w (readP 5 q)) := by
  obtain ⟨c0, _, _, hf⟩ := h.cells
  show Calls _ _ _ _ (ReadPost n0 p w ((takeP [10] q.left).map fun l => (if q.states.length = q.count then 6 else 2, { q with left := l })))
  cases ht : takeP [10] q.left with
  | none =>
    have HT := hide (take_fail p _ _ w c0 ht)
    go_enter Tryz.func63, Tryz.ntmps63
    go_wp2_with fail
    refine (unhide HT).mono ?_
    rintro e w' ⟨rfl, rfl⟩
    exact ⟨rfl, Below.refl _ _, rfl⟩
  | some m =>
    have HT := hide (take_ok p _ _ m w c0 (hf 0) ht)
    have h2 := h.left (grownBy_refl _ _) m
    have hb2 := below_set (v := encStr m) (k := 0) (grownBy_refl w none) hn h.lo
    generalize w.setCell ⟨p, 0, none⟩ (encStr m) = w2 at HT h2 hb2
    obtain ⟨_, d1, _, _⟩ := h2.cells
    obtain ⟨gv, vs, hb, hr⟩ := h2.has
    have d3 : w2.cell? ⟨p, 3, none⟩ = some gv := by rw [cell_of_row _ _ _ _ _ _ hb]; rfl
    obtain ⟨ad, cap, rfl⟩ : ∃ ad cap, gv = .slice ad q.states.length cap := by
      rcases hr.row.2 with ⟨rfl, h0⟩ | ⟨b, cap, cur, rfl, _⟩
      · exact ⟨none, 0, by simp only at h0; rw [h0]⟩
      · exact ⟨_, _, rfl⟩
    have H2 := hide h2
    have HB2 := hide hb2
    clear h2 hb2 hb hr
    simp only at d1
    go_enter Tryz.func63, Tryz.ntmps63
    go_wp2_with fail
    refine (unhide HT).mono ?_
    rintro e w' ⟨rfl, rfl⟩
    by_cases hq : q.states.length = q.count
    · have hqi : (q.states.length : Int) = (q.count : Int) := by omega
      clear hq
      go_wp2_with fail
      go_region
      all_goals
        go_wp2_with fail
        go_ret
        exact ⟨(unhide HB2).trans ((Below.refl n0 _).trans ⟨rfl, rfl, rfl, Nat.le_refl _, fun _ _ => rfl⟩), rfl, (unhide H2).later (grownBy_drew (grownBy_refl _ _))⟩
    · have hqi : ¬ (q.states.length : Int) = (q.count : Int) := by omega
      go_wp2_with fail
      go_region
      all_goals
        go_wp2_with fail
        go_ret
        exact ⟨(unhide HB2).trans ((Below.refl n0 _).trans ⟨rfl, rfl, rfl, Nat.le_refl _, fun _ _ => rfl⟩), rfl, (unhide H2).later (grownBy_drew (grownBy_refl _ _))⟩

set_option maxHeartbeats 400000 in
set_option maxRecDepth 100000 in
theorem read_count (n0 p : Nat) (q : Rd) (w : World) (h : RdAt n0 p w q) (hn : n0 ≤ w.heap.size) (hE : Errs w) (hp5 : 5 < n0) (hl : q.left.length ≤ 20000) :
    Calls Tryz.prog 63 #[.pointer (some ⟨p, 0, none⟩), .int .i64 1] w (ReadPost n0 p w (readP 1 q)) := by
  obtain ⟨c0, _, _, hf⟩ := h.cells
  show Calls _ _ _ _ (ReadPost n0 p w ((takeP [32] q.left).bind fun l => (numP l).map fun n => (5, { q with left := n.2, count := n.1 })))
  cases ht : takeP [32] q.left with
  | none =>
    have HT := hide (take_fail p _ _ w c0 ht)
    go_enter Tryz.func63, Tryz.ntmps63
    go_wp2_with fail
    refine (unhide HT).mono ?_
    rintro e w' ⟨rfl, rfl⟩
    exact ⟨rfl, Below.refl _ _, rfl⟩
  | some l =>
    have HT := hide (take_ok p _ _ l w c0 (hf 0) ht)
    have hll := take_lt (by simp) ht
    have h2 := h.left (grownBy_refl _ _) l
    have hb2 := below_set (v := encStr l) (k := 0) (grownBy_refl w none) hn h.lo
    generalize w.setCell ⟨p, 0, none⟩ (encStr l) = w2 at HT h2 hb2
    obtain ⟨d0, _, _, hf2⟩ := h2.cells
    have hE2 := hE.below hb2 hp5
    have hn2 := Nat.le_trans hn hb2.size
    show Calls _ _ _ _ (ReadPost n0 p w ((numP l).map fun n => (5, { q with left := n.2, count := n.1 })))
    cases hm : numP l with
    | none =>
      have HN := hide (num_fail p l w2 d0 (by omega) hE2 hm)
      go_enter Tryz.func63, Tryz.ntmps63
      go_wp2_with fail
      refine (unhide HT).mono ?_
      rintro e w' ⟨rfl, rfl⟩
      go_wp2_with fail
      refine (unhide HN).mono ?_
      rintro e w3 ⟨rfl, hg3⟩
      exact ⟨rfl, hb2.trans ((grownBy_below hg3).mono hn2), rfl⟩
    | some n =>
      obtain ⟨n, m⟩ := n
      have HN := hide (num_ok p l m n w2 d0 (hf2 0) (by omega) hm)
      have H2 := hide h2
      have HB2 := hide hb2
      clear h2 hb2 hf2 hE2 d0
      go_enter Tryz.func63, Tryz.ntmps63
      go_wp2_with fail
      refine (unhide HT).mono ?_
      rintro e w' ⟨rfl, rfl⟩
      go_wp2_with fail
      refine (unhide HN).mono ?_
      rintro e w3 ⟨rfl, W, hgW, hw3⟩
      have h3 := (unhide H2).left hgW m
      have hb3 := below_set (v := encStr m) (k := 0) hgW hn2 h.lo
      rw [← hw3] at h3 hb3
      obtain ⟨_, e1, _, hf3⟩ := h3.cells
      have e1f := hf3 1
      have H3 := hide h3
      have HB3 := hide hb3
      clear h3 hb3 hf3 hw3
      go_wp2_with fail
      go_ret
      exact ⟨((unhide HB2).trans (unhide HB3)).trans ((Below.refl n0 _).setCell (p := ⟨p, 1, none⟩) h.lo _), rfl, (unhide H3).counts n⟩

set_option maxHeartbeats 400000 in
set_option maxRecDepth 100000 in
theorem read_by (n0 p : Nat) (q : Rd) (w : World) (h : RdAt n0 p w q) (hn : n0 ≤ w.heap.size) (hT : Tabs w) (hp5 : 5 < n0) :
    Calls Tryz.prog 63 #[.pointer (some ⟨p, 0, none⟩), .int .i64 3] w (ReadPost n0 p w (readP 3 q)) := by
  obtain ⟨c0, _, _, hf⟩ := h.cells
  show Calls _ _ _ _ (ReadPost n0 p w ((takeP [32] q.left).bind fun l => (runeP l).map fun n => (4, { q with left := n.2, rune := n.1 })))
  cases ht : takeP [32] q.left with
  | none =>
    have HT := hide (take_fail p _ _ w c0 ht)
    go_enter Tryz.func63, Tryz.ntmps63
    go_wp2_with fail
    refine (unhide HT).mono ?_
    rintro e w' ⟨rfl, rfl⟩
    exact ⟨rfl, Below.refl _ _, rfl⟩
  | some l =>
    have HT := hide (take_ok p _ _ l w c0 (hf 0) ht)
    have h2 := h.left (grownBy_refl _ _) l
    have hb2 := below_set (v := encStr l) (k := 0) (grownBy_refl w none) hn h.lo
    generalize w.setCell ⟨p, 0, none⟩ (encStr l) = w2 at HT h2 hb2
    obtain ⟨d0, _, _, hf2⟩ := h2.cells
    have hT2 := hT.under hb2 hp5
    have hn2 := Nat.le_trans hn hb2.size
    show Calls _ _ _ _ (ReadPost n0 p w ((runeP l).map fun n => (4, { q with left := n.2, rune := n.1 })))
    cases hm : runeP l with
    | none =>
      have HN := hide (rune_fail p l w2 d0 hT2 hm)
      go_enter Tryz.func63, Tryz.ntmps63
      go_wp2_with fail
      refine (unhide HT).mono ?_
      rintro e w' ⟨rfl, rfl⟩
      go_wp2_with fail
      refine (unhide HN).mono ?_
      rintro e w3 ⟨rfl, hg3⟩
      exact ⟨rfl, hb2.trans ((grownBy_below hg3).mono hn2), rfl⟩
    | some n =>
      obtain ⟨r, m⟩ := n
      have HN := hide (rune_ok p l m r w2 d0 (hf2 0) hT2 hm)
      have H2 := hide h2
      have HB2 := hide hb2
      clear h2 hb2 hf2 hT2 d0
      go_enter Tryz.func63, Tryz.ntmps63
      go_wp2_with fail
      refine (unhide HT).mono ?_
      rintro e w' ⟨rfl, rfl⟩
      go_wp2_with fail
      refine (unhide HN).mono ?_
      rintro e w3 ⟨rfl, W, hgW, hw3⟩
      have h3 := (unhide H2).left hgW m
      have hb3 := below_set (v := encStr m) (k := 0) hgW hn2 h.lo
      rw [← hw3] at h3 hb3
      obtain ⟨_, _, e2, hf3⟩ := h3.cells
      have e2f := hf3 2
      have H3 := hide h3
      have HB3 := hide hb3
      clear h3 hb3 hf3 hw3
      go_wp2_with fail
      go_ret
      exact ⟨((unhide HB2).trans (unhide HB3)).trans ((Below.refl n0 _).setCell (p := ⟨p, 2, none⟩) h.lo _), rfl, (unhide H3).runes r⟩

end Go.Proofs.YtdfnngehhiociaaGreatDoor

namespace Go.Proofs.YtdfnngehhiociaaGreatDoor
open Go.RowKit
open Go.Proofs (encStr)

/-- A way that has ended inside a region that draws: nothing is left of it. -/
theorem ended {G : Prop} (h : G) (w : World) (_d : wpAny Tryz.prog Region.Mode.any #[] (fun _ _ _ => True) 0 #[] { tmps := #[], defers := [] } w) : G := h

theorem pair92 (w : World) (b : Bool) : ∀ j u, [Value.bool b, .slice none 0 0][j]? = some u → (w.alloc (.cells #[.bool b, .slice none 0 0] 92)).cell? ((⟨w.heap.size, 0, none⟩ : Addr).add j) = some u := by
  intro j u hu
  rw [Addr.add_mid, Nat.zero_add, cell_of_row _ _ _ _ 92 (0, 0) (Go.heap_alloc_new w _)]
  simpa using hu

set_option maxHeartbeats 600000 in
set_option maxRecDepth 100000 in
theorem read_mark (n0 p : Nat) (q : Rd) (w : World) (h : RdAt n0 p w q) (hn : n0 ≤ w.heap.size) (hs : q.states.length ≤ 20000) :
    Calls Tryz.prog 63 #[.pointer (some ⟨p, 0, none⟩), .int .i64 2] w (ReadPost n0 p w (readP 2 q)) := by
  obtain ⟨c0, _, _, hf⟩ := h.cells
  have hdr : w.grownBy w.drew none := grownBy_drew (grownBy_refl _ _)
  have hd := h.later hdr
  obtain ⟨d0, _, _, hfd⟩ := hd.cells
  obtain ⟨gv, vs, hb, hr⟩ := hd.has
  have c3 : w.cell? ⟨p, 3, none⟩ = some gv := by
    have : w.drew.cell? ⟨p, 3, none⟩ = some gv := by rw [cell_of_row _ _ _ _ _ _ hb]; rfl
    exact this
  obtain ⟨ad, cap, rfl⟩ : ∃ ad cap, gv = .slice ad q.states.length cap := by
    rcases hr.row.2 with ⟨rfl, h0⟩ | ⟨b, cap, cur, rfl, _⟩
    · exact ⟨none, 0, by rw [h0]⟩
    · exact ⟨_, _, rfl⟩
  show Calls _ _ _ _ (ReadPost n0 p w ((markP q.left).map fun m => (nextP m.2, { q with left := m.2, states := q.states ++ [(m.1, [])] })))
  cases ht : markP q.left with
  | none =>
    have HT := hide (mark_fail p _ w.drew d0 ht)
    go_enter Tryz.func63, Tryz.ntmps63
    go_wp2_with fail
    go_region_law (go_simp; go_at_call 85; refine (unhide HT).mono ?_; rintro e w5 ⟨rfl, rfl⟩; refine ended ⟨rfl, Below.trans (Below.refl n0 w) ⟨rfl, rfl, rfl, Nat.le_refl _, fun _ _ => rfl⟩, rfl⟩ w ?_)
    all_goals exact trivial
  | some bm =>
    obtain ⟨b, m⟩ := bm
    have h5 := hd.left (grownBy_refl _ _) m
    have hb5 : Below n0 w (w.drew.setCell ⟨p, 0, none⟩ (encStr m)) := below_set hdr hn h.lo
    have hbl5 : (w.drew.setCell ⟨p, 0, none⟩ (encStr m)).heap[p]? = some (.cells #[encStr m, .int .i64 (q.count : Nat), .int .i32 q.rune, .slice ad q.states.length cap] 104 (0, 0)) := by
      simp [World.setCell, Array.getElem?_modify, hb]
    have hr5 : RwsV n0 (w.drew.setCell ⟨p, 0, none⟩ (encStr m)) (.slice ad q.states.length cap) q.states vs := hr.set hb _
    have HT := hide (mark_ok p _ m b w.drew d0 (hfd 0) ht)
    generalize w.drew.setCell ⟨p, 0, none⟩ (encStr m) = w5 at HT h5 hb5 hbl5 hr5
    have hs5 : n0 ≤ w5.heap.size := Nat.le_trans hn hb5.size
    obtain ⟨i0, hi, hz0, hz1, hz2⟩ := info_parts info92
    have hc5 : w5.cell? ⟨p, 3, none⟩ = some (.slice ad q.states.length cap) := by rw [cell_of_row _ _ _ _ _ _ hbl5]; rfl
    have hc5a : (w5.alloc (.cells #[.bool b, .slice none 0 0] 92)).cell? ⟨p, 3, none⟩ = some (.slice ad q.states.length cap) := (grownBy_none_alloc _ _).cell hc5 (by simp)
    have ga := grownBy_none_alloc w5 (.cells #[.bool b, .slice none 0 0] 92)
    have HRW := hide (hr5.later ga).row
    have HON : Hid (∀ u ∈ [Value.bool b, .slice none 0 0], u.oneCell' = true) := by
      intro u hu
      simp at hu
      rcases hu with rfl | rfl <;> rfl
    have HNX : Hid (∀ g' cap' w6, (w5.alloc (.cells #[.bool b, .slice none 0 0] 92)).grownBy w6 (Value.slice ad q.states.length cap).ownBlock → w6.ownsRow n0 92 2 (.slice (some ⟨g', 0, none⟩) (q.states.length + 1) cap') (q.states.length + 1) (cellsG q.states vs ++ [.bool b, .slice none 0 0]) →
        w6.heap[p]? = some (.cells #[encStr m, .int .i64 (q.count : Nat), .int .i32 q.rune, .slice ad q.states.length cap] 104 (0, 0)) ∧ ∀ w7, w7 = w6.setCell ⟨p, 3, none⟩ (.slice (some ⟨g', 0, none⟩) (q.states.length + 1) cap') → Below n0 w w7 ∧ RdAt n0 p w7 { q with left := m, states := q.states ++ [(b, [])] } ∧ w7.cell? ⟨p, 0, none⟩ = some (encStr m)) := by
      intro g' cap' w6 hg6 hown6
      have ha5 := (ga.block p (Array.getElem?_eq_some_iff.1 hbl5).1 (by simp)).trans hbl5
      have hp6 : w6.heap[p]? = some (.cells #[encStr m, .int .i64 (q.count : Nat), .int .i32 q.rune, .slice ad q.states.length cap] 104 (0, 0)) := by
        refine (hg6.block p (Array.getElem?_eq_some_iff.1 ha5).1 fun e => ?_).trans ha5
        obtain ⟨_, c, hc⟩ := row_block (hr5.later ga).row e.symm
        rw [ha5] at hc
        cases hc
      refine ⟨hp6, ?_⟩
      rintro w7 rfl
      have hp7 : (w6.setCell ⟨p, 3, none⟩ (.slice (some ⟨g', 0, none⟩) (q.states.length + 1) cap')).heap[p]? = some (.cells #[encStr m, .int .i64 (q.count : Nat), .int .i32 q.rune, .slice (some ⟨g', 0, none⟩) (q.states.length + 1) cap'] 104 (0, 0)) := by
        simp [World.setCell, Array.getElem?_modify, hp6]
      refine ⟨?_, ⟨h.lo, _, _, hp7, ((hr5.later ga).mark hg6 hown6).set hp6 _⟩, by rw [cell_of_row _ _ _ _ _ _ hp7]; rfl⟩
      have b5 : Below n0 w (w5.alloc (.cells #[.bool b, .slice none 0 0] 92)) := hb5.trans ((grownBy_below ga).mono hs5)
      have b6 := b5.grown hg6 (Nat.le_trans hs5 ga.size) (fun j e => (row_block (hr5.later ga).row e).1)
      exact b6.trans ((Below.refl n0 _).setCell (p := ⟨p, 3, none⟩) h.lo _)
    have hhs := hs5
    clear hr hb hr5 hbl5 h5 hd hfd d0 ga hf hb5 hdr
    go_enter Tryz.func63, Tryz.ntmps63
    go_wp2_with fail
    go_region_law (first
      | (go_simp; go_at_call 85; refine (unhide HT).mono ?_; rintro e w' ⟨rfl, rfl⟩)
      | (refine step_append_lies _ rfl _ _ 66 rfl n0 92 i0 _ 2 32 Tryz.underlying66 hi hz0 hz1 hz2 rfl (by decide) (.slice ad q.states.length cap) _ _ (by simp [Act.eval]) (unhide HRW) ⟨w'.heap.size, 0, none⟩ 1 1 [.bool b, .slice none 0 0] (by simp [Act.eval]) rfl (pair92 w' b) (unhide HON) (by omega) (by unfold maxLen; omega) (by omega) (by simp; omega) _ rfl ?_; intro g' cap' w6 hown6 hg6 hloc6 hlt6; obtain ⟨h6p, HR7⟩ := unhide HNX g' cap' w6 hg6 hown6; have h6c : w6.cell? ⟨p, 3, none⟩ = some (.slice ad q.states.length cap) := (by rw [cell_of_row _ _ _ _ _ _ h6p]; rfl); have h6f : w6.frozen? ⟨p, 3, none⟩ = false := (by simp [World.frozen?, h6p]); have HR7 := hide HR7; clear h6p hloc6 hlt6 hg6 hown6))
    all_goals
      obtain ⟨hb7, h7, c7⟩ := unhide HR7 _ rfl
      have HX := hide (next_any p m _ c7)
      have HB7 := hide hb7
      have H7 := hide h7
      clear hb7 h7 c7 HR7
      go_wp2_with fail
      refine (unhide HX).mono ?_
      rintro e w8 ⟨rfl, rfl⟩
      go_wp2_with fail
      go_ret
      exact ⟨unhide HB7, rfl, unhide H7⟩

end Go.Proofs.YtdfnngehhiociaaGreatDoor

namespace Go.Proofs.YtdfnngehhiociaaGreatDoor
open Go.RowKit
open Go.Proofs (encStr)

/-- What lies behind the number's reading. -/
structure At5 (n0 p gb N cap : Nat) (w w5 : World) (m : Bs) (count : Nat) (r : Int) (g : List St) (b : Bool) (A : List (Int × Nat)) (vs : List Value) (va : Value) : Prop where
  blk : w5.heap[p]? = some (.cells #[encStr m, .int .i64 (count : Nat), .int .i32 r, .slice (some ⟨gb, 0, none⟩) N cap] 104 (0, 0))
  rws : RwsV n0 w5 (.slice (some ⟨gb, 0, none⟩) N cap) (g ++ [(b, A)]) (vs ++ [va])
  bel : Below n0 w w5

theorem last_cell {n0 gb N cap : Nat} {w : World} {g : List St} {b : Bool} {A : List (Int × Nat)} {vs : List Value} {va : Value} (h : RwsV n0 w (.slice (some ⟨gb, 0, none⟩) N cap) (g ++ [(b, A)]) (vs ++ [va])) (hN : N = g.length + 1) :
    w.cell? ⟨gb, g.length * 2 + 1, none⟩ = some va ∧ (∃ cg, w.heap[gb]? = some (.cells cg 92 (0, 0))) ∧ Arr n0 w va A := by
  have hlen := h.len
  simp only [List.length_append, List.length_singleton] at hlen
  have hl : vs.length = g.length := by omega
  have hrow := h.row
  rw [List.length_append, List.length_singleton, cellsG_snoc hl, ← hN] at hrow
  refine ⟨?_, (row_block hrow rfl).2, ?_⟩
  · rw [World.ownsRow.cellAt hrow _ (by omega)]
    have hcl : (cellsG g vs).length = g.length * 2 := by
      have := hrow.1
      rw [List.length_append] at this
      simp at this
      omega
    rw [List.getElem?_append_right (by omega), hcl, show g.length * 2 + 1 - g.length * 2 = 1 from by omega]
    rfl
  · obtain ⟨u, hu, hA⟩ := h.arr g.length (by simp)
    have e1 : va = u := by rw [← hl] at hu; simpa using hu
    subst e1
    rw [show (g ++ [(b, A)]).getD g.length (false, []) = (b, A) from by simp [List.getD]] at hA
    exact hA

set_option maxHeartbeats 1000000 in
set_option maxRecDepth 100000 in
theorem read_to (n0 p : Nat) (q : Rd) (w : World) (h : RdAt n0 p w q) (hn : n0 ≤ w.heap.size) (hE : Errs w) (hl : q.left.length ≤ 20000) (hs : q.states.length ≤ 20000) (hA : ∀ s ∈ q.states, s.2.length ≤ 20000) (hne : q.states ≠ []) :
    Calls Tryz.prog 63 #[.pointer (some ⟨p, 0, none⟩), .int .i64 4] w (ReadPost n0 p w (readP 4 q)) := by
  have hdr : w.grownBy w.drew.drew none := grownBy_drew (grownBy_drew (grownBy_refl _ _))
  have hd := h.later hdr
  obtain ⟨d0, _, _, hfd⟩ := hd.cells
  obtain ⟨gv, vs, hb, hr⟩ := hd.has
  obtain ⟨left, count, rune, states⟩ := q
  simp only at hl hs hA hne hb hr d0
  obtain ⟨g, st, rfl⟩ : ∃ g st, states = g ++ [st] := ⟨states.dropLast, states.getLast hne, (List.dropLast_concat_getLast hne).symm⟩
  obtain ⟨b, A⟩ := st
  have hvl := hr.len
  rw [List.length_append, List.length_singleton] at hvl hs
  have hvne : vs ≠ [] := fun e => by rw [e] at hvl; simp at hvl
  obtain ⟨vs, va, rfl⟩ : ∃ ws va, vs = ws ++ [va] := ⟨vs.dropLast, vs.getLast hvne, (List.dropLast_concat_getLast hvne).symm⟩
  have hAl : A.length ≤ 20000 := hA (b, A) (by simp)
  obtain ⟨N, hN⟩ : ∃ N, N = g.length + 1 := ⟨_, rfl⟩
  obtain ⟨gb, cap, rfl⟩ : ∃ gb cap, gv = .slice (some ⟨gb, 0, none⟩) N cap := by
    rcases hr.row.2 with ⟨rfl, h0⟩ | ⟨b, cap, cur, rfl, _⟩
    · simp at h0
    · exact ⟨_, _, by rw [List.length_append, List.length_singleton, hN]⟩
  obtain ⟨hcl, _, hAr⟩ := last_cell hr hN
  have c3 : w.cell? ⟨p, 3, none⟩ = some (.slice (some ⟨gb, 0, none⟩) N cap) := by
    have : w.drew.drew.cell? ⟨p, 3, none⟩ = some (.slice (some ⟨gb, 0, none⟩) N cap) := by rw [cell_of_row _ _ _ _ _ _ hb]; rfl
    exact this
  have c2 : w.cell? ⟨p, 2, none⟩ = some (.int .i32 rune) := by
    have : w.drew.drew.cell? ⟨p, 2, none⟩ = some (.int .i32 rune) := by rw [cell_of_row _ _ _ _ _ _ hb]; rfl
    exact this
  have cl : w.cell? ⟨gb, g.length * 2 + 1, none⟩ = some va := hcl
  have hwrap : IntKind.i64.wrap ((N : Int) - 1) = (g.length : Int) := by
    rw [show ((N : Int) - 1) = ((g.length : Nat) : Int) from by omega]
    exact IntWalk.i64_in _ (by omega)
  have hgN : (g.length : Int) < (N : Int) := by omega
  have hgN' : g.length < N := by omega
  show Calls _ _ _ _ (ReadPost n0 p w ((numP left).map fun n => (nextP n.2, { left := n.2, count := count, rune := rune, states := addArrow (g ++ [(b, A)]) (rune, n.1) })))
  cases ht : numP left with
  | none =>
    have HT := hide (num_fail p _ w.drew.drew d0 hl (hE.later hdr) ht)
    clear hr hb hd hfd hvl hvne hcl hAr hN
    go_enter Tryz.func63, Tryz.ntmps63
    go_wp2_with fail
    go_region
    all_goals
      go_wp2_with fail
      go_region_law (go_simp; go_at_call 84; refine (unhide HT).mono ?_; rintro e w5 ⟨rfl, hg5⟩; refine ended ⟨rfl, (grownBy_below (gnone hdr hg5)).mono hn, rfl⟩ w ?_)
      all_goals exact trivial
  | some nm =>
    obtain ⟨n, m⟩ := nm
    have HT : Hid (Calls Tryz.prog 84 #[.pointer (some ⟨p, 0, none⟩)] w.drew.drew fun e w5 => e = .returned (.int .i64 (n : Nat)) ∧ At5 n0 p gb N cap w w5 m count rune g b A vs va) := by
      refine (num_ok p _ m n w.drew.drew d0 (hfd 0) hl ht).mono ?_
      rintro e w5 ⟨rfl, W, hgW, rfl⟩
      have hbW := (hgW.block p (Array.getElem?_eq_some_iff.1 hb).1 (by simp)).trans hb
      exact ⟨rfl, by simp [World.setCell, Array.getElem?_modify, hbW], (hr.later hgW).set hbW _, below_set (gnone hdr hgW) hn h.lo⟩
    obtain ⟨i0, hi, hz0, hz1, hz2⟩ := info_parts info134
    have HON : Hid (∀ u ∈ encA (rune, n), u.oneCell' = true) := by
      intro u hu
      simp [encA] at hu
      rcases hu with rfl | rfl <;> rfl
    have HC5 : Hid (∀ w5, At5 n0 p gb N cap w w5 m count rune g b A vs va → w5.cell? ⟨gb, g.length * 2 + 1, none⟩ = some va ∧ w5.cell? ⟨p, 2, none⟩ = some (.int .i32 rune) ∧ (w5.alloc (.cells #[.int .i32 rune, .int .i64 (n : Nat)] 134)).ownsRow n0 134 2 va A.length (A.flatMap encA) ∧ n0 ≤ w5.heap.size ∧ (w5.alloc (.cells #[.int .i32 rune, .int .i64 (n : Nat)] 134)).cell? ⟨gb, g.length * 2 + 1, none⟩ = some va) := by
      intro w5 h5
      obtain ⟨k1, _, k3⟩ := last_cell h5.rws hN
      refine ⟨k1, by rw [cell_of_row _ _ _ _ _ _ h5.blk]; rfl, World.ownsRow.alloc k3 _, Nat.le_trans hn h5.bel.size, (grownBy_none_alloc w5 _).cell k1 (by simp)⟩
    have HNX : Hid (∀ g' cap' w5 w6, At5 n0 p gb N cap w w5 m count rune g b A vs va → (w5.alloc (.cells #[.int .i32 rune, .int .i64 (n : Nat)] 134)).grownBy w6 va.ownBlock → (va.ownBlock = some g' ∨ g' = (w5.alloc (.cells #[.int .i32 rune, .int .i64 (n : Nat)] 134)).heap.size) →
        w6.ownsRow n0 134 2 (.slice (some ⟨g', 0, none⟩) (A.length + 1) cap') (A.length + 1) (A.flatMap encA ++ encA (rune, n)) →
        (w6.cell? ⟨gb, g.length * 2 + 1, none⟩ = some va ∧ w6.frozen? ⟨gb, g.length * 2 + 1, none⟩ = false) ∧ ∀ w7, w7 = w6.setCell ⟨gb, g.length * 2 + 1, none⟩ (.slice (some ⟨g', 0, none⟩) (A.length + 1) cap') → Below n0 w w7 ∧ RdAt n0 p w7 { left := m, count := count, rune := rune, states := g ++ [(b, A ++ [(rune, n)])] } ∧ w7.cell? ⟨p, 0, none⟩ = some (encStr m)) := by
      intro g' cap' w5 w6 h5 hg6 hloc6 hown6
      have ga := grownBy_none_alloc w5 (.cells #[.int .i32 rune, .int .i64 (n : Nat)] 134)
      have hra := h5.rws.later ga
      obtain ⟨k1, ⟨cg, k2⟩, k3⟩ := last_cell hra hN
      have hva : ∀ j, va.ownBlock = some j → n0 ≤ j ∧ ∃ c, (w5.alloc (.cells #[.int .i32 rune, .int .i64 (n : Nat)] 134)).heap[j]? = some (.cells c 134 (0, 0)) := fun j e => row_block k3 e
      have k2' : w6.heap[gb]? = some (.cells cg 92 (0, 0)) := by
        refine (hg6.block gb (Array.getElem?_eq_some_iff.1 k2).1 fun e => ?_).trans k2
        obtain ⟨_, c, hc⟩ := hva gb e.symm
        rw [k2] at hc
        cases hc
      have ha5 := (ga.block p (Array.getElem?_eq_some_iff.1 h5.blk).1 (by simp)).trans h5.blk
      have hp6 : w6.heap[p]? = some (.cells #[encStr m, .int .i64 (count : Nat), .int .i32 rune, .slice (some ⟨gb, 0, none⟩) N cap] 104 (0, 0)) := by
        refine (hg6.block p (Array.getElem?_eq_some_iff.1 ha5).1 fun e => ?_).trans ha5
        obtain ⟨_, c, hc⟩ := hva p e.symm
        rw [ha5] at hc
        cases hc
      have hpg : some p ≠ some gb := fun e => by
        rw [Option.some.inj e, k2'] at hp6
        cases hp6
      refine ⟨⟨hg6.cell k1 (fun e => ?_), by simp [World.frozen?, k2']⟩, ?_⟩
      · obtain ⟨_, c, hc⟩ := hva gb e.symm
        rw [k2] at hc
        cases hc
      rintro w7 rfl
      have g7 := grown_set w6 gb (g.length * 2 + 1) (.slice (some ⟨g', 0, none⟩) (A.length + 1) cap')
      have hp7 := (g7.block p (Array.getElem?_eq_some_iff.1 hp6).1 hpg).trans hp6
      subst hN
      refine ⟨?_, ⟨h.lo, _, _, hp7, hra.arrow hg6 hloc6 hown6⟩, by rw [cell_of_row _ _ _ _ _ _ hp7]; rfl⟩
      have hs5 : n0 ≤ w5.heap.size := Nat.le_trans hn h5.bel.size
      have b5 : Below n0 w (w5.alloc (.cells #[.int .i32 rune, .int .i64 (n : Nat)] 134)) := h5.bel.trans ((grownBy_below ga).mono hs5)
      have b6 := b5.grown hg6 (Nat.le_trans hs5 ga.size) (fun j e => (hva j e).1)
      have hrow := hra.row
      exact b6.grown g7 (Nat.le_trans (Nat.le_trans hs5 ga.size) hg6.size) (fun j e => by cases e; exact (row_block hrow rfl).1)
    have HAD := hide (add_last g b A (rune, n))
    clear hr hb hd hfd hvl hvne hcl hAr hN d0 hdr hA
    go_enter Tryz.func63, Tryz.ntmps63
    go_wp2_with fail
    go_region
    all_goals
      go_wp2_with fail
      go_region_law (first
        | (go_simp; go_at_call 84; refine (unhide HT).mono ?_; rintro e w5 ⟨rfl, h5⟩; obtain ⟨k1, k2, k3, k4, k5⟩ := unhide HC5 w5 h5; have K3 := hide k3; have H5 := hide h5; clear k3 h5)
        | (refine step_append_lies _ rfl _ _ 90 rfl n0 134 i0 _ 2 16 Tryz.underlying90 hi hz0 hz1 hz2 rfl (by decide) va _ _ (by simp [Act.eval]) (unhide K3) ⟨w5.heap.size, 0, none⟩ 1 1 (encA (rune, n)) (by simp [Act.eval]) rfl (pair_new w5 rune n 134) (unhide HON) (by omega) (by unfold maxLen; omega) (by omega) (by simp; omega) _ rfl ?_; intro g' cap' w6 hown6 hg6 hloc6 hlt6; obtain ⟨⟨h6c, h6f⟩, HR7⟩ := unhide HNX g' cap' w5 w6 (unhide H5) hg6 hloc6 hown6; have HR7 := hide HR7; clear hloc6 hlt6 hg6 hown6))
      all_goals
        obtain ⟨hb7, h7, c7⟩ := unhide HR7 _ rfl
        have HX := hide (next_any p m _ c7)
        have HB7 := hide hb7
        have H7 := hide h7
        clear hb7 h7 c7 HR7
        go_wp2_with fail
        refine (unhide HX).mono ?_
        rintro e w8 ⟨rfl, rfl⟩
        go_wp2_with fail
        go_ret
        refine ⟨unhide HB7, rfl, ?_⟩
        have := unhide H7
        rw [← unhide HAD] at this
        exact this

end Go.Proofs.YtdfnngehhiociaaGreatDoor

namespace Go.Proofs.YtdfnngehhiociaaGreatDoor
open Go.RowKit
open Go.Proofs (encStr)

theorem read_any (n0 p k : Nat) (q : Rd) (w : World) (h : RdAt n0 p w q) (hI : Inv k q) (hk : k ≠ 6) (hn : n0 ≤ w.heap.size) (hT : Tabs w) (hE : Errs w) (hp5 : 5 < n0) :
    Calls Tryz.prog 63 #[.pointer (some ⟨p, 0, none⟩), .int .i64 (k : Nat)] w (ReadPost n0 p w (readP k q)) := by
  have h5 := hI.few
  have hle := hI.le
  have hcase : k = 0 ∨ k = 1 ∨ k = 2 ∨ k = 3 ∨ k = 4 ∨ k = 5 := by omega
  rcases hcase with rfl | rfl | rfl | rfl | rfl | rfl
  · exact read_head n0 p q w h hn
  · exact read_count n0 p q w h hn hE hp5 (by omega)
  · exact read_mark n0 p q w h hn (by omega)
  · exact read_by n0 p q w h hn hT hp5
  · exact read_to n0 p q w h hn hE (by omega) (by omega) (fun s hs => by have := hI.fewer s hs; omega) (hI.some' (Or.inr rfl))
  · exact read_end n0 p q w h hn

/-- How much is left. -/
def leftAt (p : Nat) (w : World) : Nat := match w.cell? ⟨p, 0, none⟩ with
  | some (.string s) => s.size
  | _ => 0

theorem left_at {n0 p : Nat} {w : World} {q : Rd} (h : RdAt n0 p w q) : leftAt p w = q.left.length := by
  unfold leftAt
  rw [h.cells.1]
  exact List.size_toArray

theorem RwsV.graph {n0 : Nat} {w : World} {gv : Value} {g : List St} {vs : List Value} (h : RwsV n0 w gv g vs) : IsGraph 0 w gv g :=
  ⟨vs, h.len, row_base h.row (Nat.zero_le _), fun i hi => by
    obtain ⟨u, hu, hA⟩ := h.arr i hi
    exact ⟨u, hu, row_base hA (Nat.zero_le _)⟩⟩

/-- How the reading ends. -/
def GraphPost (w : World) (r : Option Rd) (e : Ending) (w' : World) : Prop := w.grownBy w' none ∧ match r with
  | none => e = .panicked Up
  | some q => ∃ v, e = .returned v ∧ IsGraph 0 w' v q.states ∧ Inv 6 q

/-- A reader at the beginning. -/
def rd0 (l : Bs) : Rd := { left := l, count := 0, rune := 0, states := [] }

set_option maxHeartbeats 600000 in
set_option maxRecDepth 100000 in
theorem readGraph_any (l : Bs) (w : World) (hl : l.length ≤ 20000) (hT : Tabs w) (hE : Errs w) (hp5 : 5 < w.heap.size) :
    Calls Tryz.prog 36 #[encStr l] w (GraphPost w (readAll 0 (rd0 l))) := by
  have h0 : RdAt w.heap.size w.heap.size (w.alloc (.cells #[encStr l, .int .i64 0, .int .i32 0, .slice none 0 0] 104)) (rd0 l) := by
    refine ⟨Nat.le_refl _, .slice none 0 0, [], World.alloc_heap_new w _, rfl, World.ownsRow_nil _ _ _ _, fun i hi => by simp [rd0] at hi, fun i u l hi => by simp [rd0] at hi⟩
  have hb0 : Below w.heap.size w (w.alloc (.cells #[encStr l, .int .i64 0, .int .i32 0, .slice none 0 0] 104)) := grownBy_below (grownBy_none_alloc _ _)
  have H0 := hide h0
  have HB0 := hide hb0
  have HT := hide hT
  have HE := hide hE
  have hI0 : Inv 0 (rd0 l) := Inv.begin hl
  clear h0 hb0 hT hE
  go_enter Tryz.func36, Tryz.ntmps36
  go_wp2_with fail
  go_loopw [4] (fun i wr => ∃ (k : Nat) (q : Rd), i = .int .i64 k ∧ Hid (RdAt w.heap.size w.heap.size wr q ∧ Inv k q ∧ readAll 0 (rd0 l) = readAll k q ∧ Below w.heap.size w wr)) (fun _ wr => leftAt w.heap.size wr)
  case atStart => exact ⟨0, rd0 l, rfl, unhide H0, hI0, rfl, unhide HB0⟩
  case round =>
    clear H0 HB0 hI0
    obtain ⟨k, q, rfl, HX⟩ := hrel
    have hle := (unhide HX).2.1.le
    by_cases hk : k = 6
    · subst hk
      obtain ⟨hR, hI, hall, hB⟩ := unhide HX
      rw [readAll_done] at hall
      obtain ⟨gv, vs, hbk, hr⟩ := hR.has
      have c3 : wr.cell? ⟨w.heap.size, 3, none⟩ = some gv := by rw [cell_of_row _ _ _ _ _ _ hbk]; rfl
      have HG := hide hr.graph
      have HA := hide hall
      have HB := hide hB
      have HI := hide hI
      clear hR hI hall hB hbk hr HX
      go_wp2_with fail
      go_ret
      rw [unhide HA]
      exact ⟨below_grownBy (unhide HB) none, _, rfl, unhide HG, unhide HI⟩
    · have hki : ¬ (k : Int) = 6 := by omega
      obtain ⟨hR, hI, hall, hB⟩ := unhide HX
      have HC := hide (read_any w.heap.size w.heap.size k q wr hR hI hk hB.size ((unhide HT).under hB hp5) ((unhide HE).below hB hp5) hp5)
      have hla := left_at hR
      cases hr : readP k q with
      | none =>
        rw [hr] at HC
        rw [readAll_fail hk hr] at hall
        have HA := hide hall
        have HB := hide hB
        clear hR hI hall hB hr HX
        go_wp2_with fail
        refine (unhide HC).mono ?_
        rintro e w1 ⟨hb1, rfl⟩
        refine ⟨rfl, ?_⟩
        rw [unhide HA]
        exact ⟨below_grownBy ((unhide HB).trans hb1) none, rfl⟩
      | some n =>
        rw [hr] at HC
        rw [readAll_step hk hr] at hall
        have HI2 := hide (hI.step hk (k' := n.1) (q' := n.2) hr)
        have HLT := hide (read_lt (part' := n.1) (q' := n.2) hr)
        have HA := hide hall
        have HB := hide hB
        have HLA := hide hla
        clear hR hI hall hB hr HX hla
        go_wp2_with fail
        refine (unhide HC).mono ?_
        rintro e w1 ⟨hb1, rfl, hR1⟩
        have HB1 := hide hb1
        have HR1 := hide hR1
        clear hb1 hR1
        go_wp2_with fail
        go_roundw
        case rel => exact ⟨n.1, n.2, rfl, unhide HR1, unhide HI2, unhide HA, (unhide HB).trans (unhide HB1)⟩
        case measure =>
          have e1 := left_at (unhide HR1)
          have e2 := unhide HLT
          have e3 := unhide HLA
          omega

end Go.Proofs.YtdfnngehhiociaaGreatDoor
