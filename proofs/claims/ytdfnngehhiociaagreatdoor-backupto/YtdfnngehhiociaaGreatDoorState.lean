import Derived.Test.YtdfnngehhiociaaGreatDoorNumbs
import Derived.Test.YtdfnngehhiociaaGreatDoorCome
import Derived.Deep.RegionLaw
import Derived.Deep.AppendLies
namespace Go.Proofs.YtdfnngehhiociaaGreatDoor
open Go.RowKit Go.Maps Go.WideMaps
open Go.Proofs (encStr)

def encA (q : Int × Nat) : List Value := [.int .i32 q.1, .int .i64 (q.2 : Nat)]

/-- A slice of these arrows lies there. -/
def Arr (base : Nat) (w : World) (v : Value) (qs : List (Int × Nat)) : Prop := w.ownsRow base 134 2 v qs.length (qs.flatMap encA)

theorem arrows_snoc (W : List Rs) (r : Int) : ∀ (R : List Int) (F : List (List Rs)), arrowsR W (R ++ [r]) F = arrowsR W R F ++ [(r, (meetsR W R F).idxOf (behind W r))]
  | [], F => rfl
  | q :: R, F => by rw [List.cons_append, arrowsR, arrowsR, meetsR, arrows_snoc W r R, List.cons_append]
theorem meets_snoc (W : List Rs) (r : Int) : ∀ (R : List Int) (F : List (List Rs)), meetsR W (R ++ [r]) F = meetR (meetsR W R F) (behind W r)
  | [], F => rfl
  | q :: R, F => by rw [List.cons_append, meetsR, meetsR, meets_snoc W r R]

theorem take_snoc {α : Type} (l : List α) (k : Nat) (d : α) (hk : k < l.length) : l.take (k + 1) = l.take k ++ [l.getD k d] := by
  rw [List.take_add_one]
  simp [List.getD, hk]

theorem decode_word {a : Int} {t : Rs} (ha : RuneOk a) : Lib.decodeGo ⟨(encW (a :: t)).toArray⟩ = (a.toNat, (Lib.encodeRune a).length) := by
  have hl := encode_len a
  unfold Lib.decodeGo
  rw [if_neg]
  · have := decode_encode ha (encW t)
    rw [← encW_cons] at this
    exact this
  · show ¬ (encW (a :: t)).toArray.size = 0
    rw [List.size_toArray, encW_cons, List.length_append]
    omega

theorem rest_word (a : Int) (t : Rs) : (⟨(encW (a :: t)).toArray⟩ : ByteArray).extract (Lib.encodeRune a).length (⟨(encW (a :: t)).toArray⟩ : ByteArray).size = ⟨(encW t).toArray⟩ := by
  apply ByteArray.ext
  rw [ByteArray.data_extract]
  show ((encW (a :: t)).toArray.extract (Lib.encodeRune a).length (encW (a :: t)).toArray.size) = (encW t).toArray
  apply Array.ext'
  rw [encW_cons]
  simp
theorem size_word (a : Int) (t : Rs) : (⟨(encW (a :: t)).toArray⟩ : ByteArray).size = (Lib.encodeRune a).length + (encW t).length := by
  show (encW (a :: t)).toArray.size = _
  rw [encW_cons]
  simp

theorem heads_le (V : List Rs) : (heads V).length ≤ V.length := by
  induction V with
  | nil => exact Nat.le_refl _
  | cons v V ih =>
    cases v with
    | nil => rw [heads, List.length_cons]; omega
    | cons a t =>
      rw [heads, List.length_cons]
      by_cases h : a ∈ heads V
      · rw [if_pos h]; omega
      · rw [if_neg h, List.length_cons]; omega

theorem behind_le (V : List Rs) (a : Int) : (behind V a).length ≤ V.length := List.length_filterMap_le _ _

theorem RuneRow.fr {mb : Nat} {w w' : World} {v : Value} {zs : List Int} (h : RuneRow w v zs) (hf : Fr mb w w') (hm : ∃ es clock, w.heap[mb]? = some (.map es clock)) : RuneRow w' v zs := by
  rcases h with h | ⟨g, cap, c, hv, hb, hc⟩
  · exact Or.inl h
  · have hb' : w'.heap[g]? = some (.cells c 21 (0, 0)) := by
      refine hf.block g _ hb ?_ (fun c f e => by injection e with _ e2; exact absurd e2 (by decide)) (fun c f e => by injection e with _ e2; exact absurd e2 (by decide))
      intro e
      subst e
      obtain ⟨es, clock, h2⟩ := hm
      rw [h2] at hb
      cases hb
    exact Or.inr ⟨g, cap, c, hv, hb', fun j hj => by rw [World.cell?_of_block (hb'.trans hb.symm)]; exact hc j hj⟩

theorem RuneRow.off {w w' : World} {v : Value} {zs : List Int} {row : Option Nat} (h : RuneRow w v zs) (hg : w.grownBy w' row) (hr : ∀ j, row = some j → ∀ c, w.heap[j]? ≠ some (.cells c 21 (0, 0))) : RuneRow w' v zs := by
  rcases h with h | ⟨g, cap, c, hv, hb, hc⟩
  · exact Or.inl h
  · have hb' : w'.heap[g]? = some (.cells c 21 (0, 0)) := (hg.block g (Array.getElem?_eq_some_iff.1 hb).1 (fun e => hr g e.symm c hb)).trans hb
    exact Or.inr ⟨g, cap, c, hv, hb', fun j hj => by rw [World.cell?_of_block (hb'.trans hb.symm)]; exact hc j hj⟩

theorem Fr.new {mb : Nat} {a b c : World} {row : Option Nat} (h : Fr mb a b) (hg : b.grownBy c row) (hr : ∀ j, row = some j → a.heap.size ≤ j) : Fr mb a c :=
  ⟨hg.os.trans h.os, hg.tape.trans h.tape, hg.output.trans h.output, Nat.le_trans h.size hg.size, fun k o hk h1 h2 h3 => by
    have hb := h.block k o hk h1 h2 h3
    refine (hg.block k (Array.getElem?_eq_some_iff.1 hb).1 fun e => ?_).trans hb
    have := hr k e.symm
    have := (Array.getElem?_eq_some_iff.1 hk).1
    omega⟩

/-- A block of cells of another kind has turned. -/
def Apart (w : World) (row : Option Nat) : Prop := ∀ j, row = some j → ∃ c e f, w.heap[j]? = some (.cells c e f) ∧ e ≠ 88 ∧ e ≠ 26 ∧ e ≠ 9 ∧ e ≠ 21

theorem Numb.off {n0 : Nat} {w w' : World} {B mb : Nat} {F : List (List Rs)} {row : Option Nat} (h : Numb n0 w B mb F) (hg : w.grownBy w' row) (hr : Apart w row) : Numb n0 w' B mb F := by
  obtain ⟨v, vs, h1, h2, h3⟩ := h.row
  have hmb : some mb ≠ row := fun e => by
    obtain ⟨es, clock, hm⟩ := h.found.obj
    obtain ⟨c, _, f, hc, _⟩ := hr mb e.symm
    rw [hm] at hc
    cases hc
  have hrow : ∀ {base : Nat} {t : TypeId} {size : Nat} {u : Value} {n : Nat} {xs : List Value}, t = 26 ∨ t = 9 → w.ownsRow base t size u n xs → w'.ownsRow base t size u n xs := by
    intro base t size u n xs ht hu
    refine row_off hu hg ?_
    cases hub : u.ownBlock with
    | none => exact Or.inl rfl
    | some q =>
      refine Or.inr fun e => ?_
      obtain ⟨_, cur, hc⟩ := row_block hu hub
      obtain ⟨c, t', f, hc', e1, e2, e3, _⟩ := hr q e.symm
      rw [hc] at hc'
      injection hc' with hc'
      injection hc' with _ et _
      rcases ht with rfl | rfl
      · exact e2 et.symm
      · exact e3 et.symm
  refine ⟨h.loB, h.loM, h.found.kept hg hmb, v, vs, (hg.block B (Array.getElem?_eq_some_iff.1 h1).1 (fun e => ?_)).trans h1, hrow (Or.inl rfl) h2, fun i hi => ?_⟩
  · obtain ⟨c, t, f, hc, e1, _⟩ := hr B e.symm
    rw [h1] at hc
    injection hc with hc
    injection hc with _ et _
    exact e1 et.symm
  · obtain ⟨u, hu, hS⟩ := h3 i hi
    exact ⟨u, hu, hrow (Or.inr rfl) hS⟩
theorem Numb.later {n0 : Nat} {w w' : World} {B mb : Nat} {F : List (List Rs)} (h : Numb n0 w B mb F) (hg : w.grownBy w' none) : Numb n0 w' B mb F := h.off hg fun j e => by cases e
theorem StrR.later {w w' : World} {u : Value} {W : List Rs} (h : StrR w u W) (hg : w.grownBy w' none) : StrR w' u W := row_off h hg (by cases u.ownBlock <;> simp)

theorem row_base {w : World} {base base' : Nat} {e : TypeId} {size : Nat} {v : Value} {n : Nat} {xs : List Value} (h : w.ownsRow base e size v n xs) (hb : base' ≤ base) : w.ownsRow base' e size v n xs := by
  refine ⟨h.1, ?_⟩
  rcases h.2 with h0 | ⟨g, cap, cur, hv, hbg, rest⟩
  · exact Or.inl h0
  · exact Or.inr ⟨g, cap, cur, hv, Nat.le_trans hb hbg, rest⟩

theorem pair_new (w : World) (r : Int) (c : Nat) (t : TypeId) : ∀ j u, (encA (r, c))[j]? = some u → (w.alloc (.cells #[.int .i32 r, .int .i64 (c : Nat)] t)).cell? ((⟨w.heap.size, 0, none⟩ : Addr).add j) = some u := by
  intro j u hu
  rw [Addr.add_mid, Nat.zero_add, cell_of_row _ _ _ _ t (0, 0) (Go.heap_alloc_new w _)]
  simpa [encA] using hu

theorem key_bound {W : List Rs} (h40 : W.length ≤ 40) (h10 : ∀ r ∈ W, r.length ≤ 10) : (keyB W).length ≤ 100000 := by
  have enc : ∀ r : Rs, (encW r).length ≤ 4 * r.length := by
    intro r
    induction r with
    | nil => simp [encW]
    | cons x r ih =>
      have := encode_len x
      rw [encW_cons, List.length_append, List.length_cons]
      omega
  have key : ∀ W : List Rs, (∀ r ∈ W, r.length ≤ 10) → (keyB W).length ≤ 41 * W.length := by
    intro W
    induction W with
    | nil => intro _; simp [keyB]
    | cons r W ih =>
      intro h
      have h1 := ih fun q hq => h q (List.mem_cons_of_mem _ hq)
      have h2 := enc r
      have h3 := h r (List.mem_cons_self ..)
      rw [keyB_cons, List.length_append, List.length_cons, List.length_cons]
      omega
  have := key W h10
  omega

theorem behind_fine {W : List Rs} (h : Fine W) (r : Int) : Fine (behind W r) := fun _ ht x hx => h _ (mem_behind.1 ht) x (List.mem_cons_of_mem _ hx)
theorem behind_ten {W : List Rs} (h : ∀ r ∈ W, r.length ≤ 10) (r : Int) : ∀ t ∈ behind W r, t.length ≤ 10 := fun t ht => by
  have := h _ (mem_behind.1 ht)
  simp at this
  omega

theorem block_of_arr {s : Nat} {w : World} {va : Value} {A : List (Int × Nat)} (h : Arr s w va A) {j : Nat} (e : va.ownBlock = some j) : s ≤ j ∧ ∃ c, w.heap[j]? = some (.cells c 134 (0, 0)) := row_block h e

/-- What stands behind a round of the second loop. -/
theorem round_next {n0 B mb g' cap' : Nat} {w wr w5 w6 : World} {r0 cs : Array Value} {b : Value} {va V : Value} {W : List Rs} {zs : List Int} {A : List (Int × Nat)} {q : Int × Nat} {F' : List (List Rs)}
    (b1 : wr.heap[w.heap.size]? = some (.cells r0 92 (0, 0))) (b2 : wr.heap[w.heap.size + 1]? = some (.cells #[b, va] 92 (0, 0))) (b3 : Grp w.heap.size wr (w.heap.size + 1 + 1) W) (b5 : RuneRow wr V zs) (b6 : Fr mb w wr) (b7 : Below n0 w wr) (b8 : Arr w.heap.size wr va A)
    (hmbl : mb < w.heap.size) (hmap : ∃ es clock, wr.heap[mb]? = some (.map es clock)) (hn0 : n0 ≤ w.heap.size) (hF5 : Fr mb wr.drew w5) (hB5 : Below n0 wr.drew w5) (hN5 : Numb n0 w5 B mb F') (hg6 : (w5.alloc (.cells cs 134)).grownBy w6 va.ownBlock)
    (hown6 : w6.ownsRow w.heap.size 134 2 (.slice (some ⟨g', 0, none⟩) (A.length + 1) cap') (A.length + 1) (A.flatMap encA ++ encA q)) :
    w6.heap[w.heap.size + 1]? = some (.cells #[b, va] 92 (0, 0)) ∧ ∀ w7, w7 = w6.setCell ⟨w.heap.size + 1, 1, none⟩ (.slice (some ⟨g', 0, none⟩) (A.length + 1) cap') →
      w7.heap[w.heap.size]? = some (.cells r0 92 (0, 0)) ∧ w7.heap[w.heap.size + 1]? = some (.cells #[b, .slice (some ⟨g', 0, none⟩) (A.length + 1) cap'] 92 (0, 0)) ∧ Grp w.heap.size w7 (w.heap.size + 1 + 1) W ∧ Numb n0 w7 B mb F' ∧ RuneRow w7 V zs ∧ Fr mb w w7 ∧ Below n0 w w7 ∧ Arr w.heap.size w7 (.slice (some ⟨g', 0, none⟩) (A.length + 1) cap') (A ++ [q]) := by
  have hd : wr.grownBy wr.drew none := grownBy_drew (grownBy_refl _ _)
  have ga := grownBy_none_alloc w5 (.cells cs 134)
  have hF5' : Fr mb wr w5 := (Fr.none hd).trans hF5
  have h92 : ∀ (k : Nat) (c : Array Value), k ≠ mb → wr.heap[k]? = some (.cells c 92 (0, 0)) → (w5.alloc (.cells cs 134)).heap[k]? = some (.cells c 92 (0, 0)) := by
    intro k c hk h
    have := hF5'.block k _ h hk (fun c f e => by injection e with _ e2; exact absurd e2 (by decide)) (fun c f e => by injection e with _ e2; exact absurd e2 (by decide))
    exact (ga.block k (Array.getElem?_eq_some_iff.1 this).1 (by simp)).trans this
  have hr5 : (w5.alloc (.cells cs 134)).ownsRow w.heap.size 134 2 va A.length (A.flatMap encA) := by
    refine (hF5'.row b8 (by decide) (by decide) fun c f e => ?_).alloc _
    obtain ⟨es, clock, hm⟩ := hmap
    rw [hm] at e
    cases e
  have hva : ∀ j, va.ownBlock = some j → w.heap.size ≤ j ∧ ∃ c, (w5.alloc (.cells cs 134)).heap[j]? = some (.cells c 134 (0, 0)) := fun j e => row_block hr5 e
  have h92' : ∀ (k : Nat) (c : Array Value), k ≠ mb → wr.heap[k]? = some (.cells c 92 (0, 0)) → w6.heap[k]? = some (.cells c 92 (0, 0)) := by
    intro k c hk h
    have h5 := h92 k c hk h
    refine (hg6.block k (Array.getElem?_eq_some_iff.1 h5).1 fun e => ?_).trans h5
    obtain ⟨_, c', hc'⟩ := hva k e.symm
    rw [h5] at hc'
    cases hc'
  have h61 := h92' _ _ (by omega) b1
  have h62 := h92' _ _ (by omega) b2
  refine ⟨h62, ?_⟩
  rintro w7 rfl
  have g7 := grown_set w6 (w.heap.size + 1) 1 (.slice (some ⟨g', 0, none⟩) (A.length + 1) cap')
  have hmap5 : ∃ es clock, w5.heap[mb]? = some (.map es clock) := hN5.found.obj
  refine ⟨(g7.block _ (Array.getElem?_eq_some_iff.1 h61).1 (by simp)).trans h61, ?_, ?_, ?_, ?_, ?_, ?_, ?_⟩
  · simp [World.setCell, Array.getElem?_modify, h62]
  · have c1 := (((b3.later hd).fr hF5 (by omega) hmap).later ga).kept hg6 (fun e => by
      obtain ⟨_, c', hc'⟩ := hva _ e.symm
      obtain ⟨es, clock, hm⟩ := (((b3.later hd).fr hF5 (by omega) hmap).later ga).obj
      rw [hm] at hc'
      cases hc') (fun j e cur hc => by
      obtain ⟨_, c', hc'⟩ := hva _ e
      rw [hc] at hc'
      cases hc')
    exact c1.kept g7 (by simp) (fun j e cur hc => by cases e; rw [h62] at hc; cases hc)
  · refine ((hN5.later ga).off hg6 fun j e => ?_).off g7 fun j e => ?_
    · obtain ⟨_, c', hc'⟩ := hva _ e
      exact ⟨_, _, _, hc', by decide, by decide, by decide, by decide⟩
    · cases e
      exact ⟨_, _, _, h62, by decide, by decide, by decide, by decide⟩
  · refine ((((b5.fr hF5' hmap).off ga (fun j e => by cases e)).off hg6 fun j e c hc => ?_).off g7 fun j e c hc => ?_)
    · obtain ⟨_, c', hc'⟩ := hva _ e
      rw [hc] at hc'
      cases hc'
    · cases e
      rw [h62] at hc
      cases hc
  · exact (((b6.trans hF5').new ga (fun j e => by cases e)).new hg6 (fun j e => (hva j e).1)).new g7 (fun j e => by cases e; omega)
  · have c1 : Below n0 w w5 := (b7.trans ((grownBy_below hd).mono (Nat.le_trans hn0 b6.size))).trans hB5
    have s5 : n0 ≤ w5.heap.size := Nat.le_trans hn0 c1.size
    have c2 : Below n0 w (w5.alloc (.cells cs 134)) := c1.trans ((grownBy_below ga).mono s5)
    have c3 : Below n0 w w6 := c2.grown hg6 (Nat.le_trans hn0 c2.size) (fun j e => Nat.le_trans hn0 (hva j e).1)
    exact c3.grown g7 (Nat.le_trans hn0 c3.size) (fun j e => by cases e; omega)
  · have c1 := row_off hown6 g7 (Or.inr fun e => by
      obtain ⟨_, cur, hc⟩ := row_block hown6 (show (Value.slice (some ⟨g', 0, none⟩) (A.length + 1) cap').ownBlock = some g' from rfl)
      have : g' = w.heap.size + 1 := Option.some.inj e
      rw [this, h62] at hc
      cases hc)
    unfold Arr
    rw [List.length_append, List.length_singleton, List.flatMap_append]
    simpa using c1

theorem info134 : (Tryz.prog.info? 134).map (fun i => (i.zero, i.size, i.bytes)) = some (some (.agg #[.int .i32 0, .int .i64 0]), 2, 16) := by kernel_rfl
theorem info9 : (Tryz.prog.info? 9).map (fun i => (i.zero, i.size, i.bytes)) = some (some (.string ⟨#[]⟩), 1, 16) := by kernel_rfl

set_option maxHeartbeats 1000000 in
set_option maxRecDepth 100000 in
theorem state_any (n0 B mb : Nat) (u : Value) (F : List (List Rs)) (W : List Rs) (w : World) (hN : Numb n0 w B mb F) (hW : StrR w u W) (hT : Tabs w) (hF : ∀ V ∈ F, Fine V) (hFW : Fine W) (hFl : F.length < 50000) (hWl : W.length ≤ 40)
    (hw10 : ∀ r ∈ W, r.length ≤ 10) (hn0 : n0 ≤ w.heap.size) :
    Calls Tryz.prog 58 #[.pointer (some ⟨B, 0, none⟩), u] w fun e w' => ∃ va, e = .returned (.agg #[.bool (decide ([] ∈ W)), va]) ∧ Arr 0 w' va (arrowsR W (firsts W) F) ∧ Numb n0 w' B mb (meetsR W (firsts W) F) ∧ Fr mb w w' ∧ Below n0 w w' := by
  obtain ⟨ad0, cap, rfl, had0⟩ : ∃ ad0 cap, u = .slice ad0 W.length cap ∧ (0 < W.length → ∃ g, ad0 = some ⟨g, 0, none⟩) := by
    rcases hW.2 with ⟨rfl, h0⟩ | ⟨g, cap, cur, rfl, _⟩
    · exact ⟨none, 0, by rw [h0], fun h => by omega⟩
    · exact ⟨_, _, rfl, fun _ => ⟨g, rfl⟩⟩
  have hcells : ∀ g k, ad0 = some ⟨g, 0, none⟩ → k < W.length → w.cell? ⟨g, k, none⟩ = some (encStr (encW (W.getD k []))) := fun g k e hk => by
    subst e
    rw [World.ownsRow.cellAt hW k (by omega)]
    simp [List.getD, hk]
  have hmbl : mb < w.heap.size := by
    obtain ⟨es, clock, hm⟩ := hN.found.obj
    exact (Array.getElem?_eq_some_iff.1 hm).1
  have HC := hide hcells
  have HN := hide hN
  have HWR := hide hW
  have HT := hide hT
  clear hcells hN hW hT
  have hmm := @run_makeMap Tryz.prog
  obtain ⟨W0, hW0⟩ : ∃ W0, W0 = ((w.alloc (.cells #[.bool false, .slice none 0 0] 92)).alloc (.cells #[.bool false, .slice none 0 0] 92)).alloc (.map #[] 0) := ⟨_, rfl⟩
  have H0 : Hid (w.grownBy W0 none ∧ W0.heap[w.heap.size]? = some (.cells #[.bool false, .slice none 0 0] 92 (0, 0)) ∧ W0.heap[w.heap.size + 1]? = some (.cells #[.bool false, .slice none 0 0] 92 (0, 0)) ∧ Grp w.heap.size W0 (w.heap.size + 1 + 1) []) := by
    have g1 := grownBy_none_alloc w (.cells #[.bool false, .slice none 0 0] 92)
    have g2 := grownBy_none_alloc (w.alloc (.cells #[.bool false, .slice none 0 0] 92)) (.cells #[.bool false, .slice none 0 0] 92)
    have g3 := grownBy_none_alloc ((w.alloc (.cells #[.bool false, .slice none 0 0] 92)).alloc (.cells #[.bool false, .slice none 0 0] 92)) (.map #[] 0)
    have e1 := World.alloc_heap_new w (.cells #[.bool false, .slice none 0 0] 92)
    have e2 := World.alloc_heap_new (w.alloc (.cells #[.bool false, .slice none 0 0] 92)) (.cells #[.bool false, .slice none 0 0] 92)
    rw [World.size_alloc] at e2
    have e3 := Grp.made w.heap.size ((w.alloc (.cells #[.bool false, .slice none 0 0] 92)).alloc (.cells #[.bool false, .slice none 0 0] 92))
    rw [World.size_alloc, World.size_alloc] at e3
    rw [hW0]
    refine ⟨gnone (gnone g1 g2) g3, ?_, ?_, e3⟩
    · exact (g3.block _ (by simp; omega) (by simp)).trans ((g2.block _ (by simp) (by simp)).trans e1)
    · exact (g3.block _ (by simp) (by simp)).trans e2
  go_enter Tryz.func58, Tryz.ntmps58
  go_wp2
  rw [← hW0]
  clear hW0
  go_loopw [16] (fun i wr => ∃ k : Nat, k ≤ W.length ∧ i = .int .i64 k ∧ Hid (w.grownBy wr none ∧ wr.heap[w.heap.size]? = some (.cells #[.bool false, .slice none 0 0] 92 (0, 0)) ∧ wr.heap[w.heap.size + 1]? = some (.cells #[.bool (decide ([] ∈ W.take k)), .slice none 0 0] 92 (0, 0)) ∧ Grp w.heap.size wr (w.heap.size + 1 + 1) (W.take k))) (fun i _ => W.length - (intOf i).toNat)
  case atStart => exact ⟨0, Nat.zero_le _, rfl, H0⟩
  case round =>
    clear H0
    obtain ⟨k, hk, rfl, HR⟩ := hrel
    by_cases hlt : k < W.length
    · obtain ⟨g, rfl⟩ := had0 (by omega)
      obtain ⟨hg, hR, hH, hG⟩ := unhide HR
      have hc := hg.cell (unhide HC g k rfl hlt) (by simp)
      have htk := take_snoc W k [] hlt
      have hmem : W.getD k [] ∈ W := by simp [List.getD, hlt]
      have hfine := hFW _ hmem
      have h10 := hw10 _ hmem
      generalize W.getD k [] = x at hc htk hfine h10
      have HTK := hide htk
      clear htk hmem
      cases x with
      | nil =>
        have h0 : wr.cell? ⟨w.heap.size + 1, 0, none⟩ = some (.bool (decide ([] ∈ W.take k))) := by rw [cell_of_row _ _ _ _ _ _ hH]; rfl
        have hf0 : wr.frozen? ⟨w.heap.size + 1, 0, none⟩ = false := by simp [World.frozen?, hH]
        have HH := hide hH
        have HG := hide hG
        have HRR := hide hR
        have Hg := hide hg
        clear hH hG hR hg HR
        change wr.cell? ⟨g, k, none⟩ = some (.string ⟨#[]⟩) at hc
        go_wp2
        go_roundw
        case rel =>
          have hg2 : wr.grownBy (wr.setCell ⟨w.heap.size + 1, 0, none⟩ (.bool true)) (some (w.heap.size + 1)) := grown_set _ _ _ _
          refine ⟨k + 1, by omega, by go_num, gnew (unhide Hg) hg2 (fun j e => by cases e; omega), (hg2.block _ (Array.getElem?_eq_some_iff.1 (unhide HRR)).1 (by simp)).trans (unhide HRR), ?_, ?_⟩
          · rw [unhide HTK]
            simp [World.setCell, Array.getElem?_modify, unhide HH]
          · rw [unhide HTK]
            exact ((unhide HG).kept hg2 (by simp) (fun j e cur hc => by cases e; rw [unhide HH] at hc; cases hc)).skip
        case measure => simp [intOf]; omega
      | cons a t =>
        have ha := (hfine a (List.mem_cons_self ..)).1
        have hdec := decode_word (t := t) ha
        have hext := rest_word a t
        have hsz := size_word a t
        have hlen := encode_len a
        have hx : wr.cell? ⟨g, k, none⟩ = some (.string ⟨(encW (a :: t)).toArray⟩) := hc
        have hnE : ¬ (⟨(encW (a :: t)).toArray⟩ : ByteArray).toList = [] := by
          rw [ByteArray.toList_eq]
          show ¬ encW (a :: t) = []
          rw [encW_cons]
          intro e
          have := congrArg List.length e
          rw [List.length_append, List.length_nil] at this
          omega
        have hnE : (⟨(encW (a :: t)).toArray⟩ : ByteArray).toList.isEmpty = false := by
          rw [List.isEmpty_eq_false_iff]; exact hnE
        generalize (⟨(encW (a :: t)).toArray⟩ : ByteArray) = S at hx hdec hext hsz hnE
        generalize (Lib.encodeRune a).length = m at hdec hext hsz hlen
        clear hc
        have HD : Hid (Calls Tryz.prog 78 #[.string S] wr fun e w' => e = .returned (.tuple #[.int .i32 a, .int .i64 (m : Nat)]) ∧ wr.grownBy w' none) := by
          refine (Tryz.utf8_DecodeRuneInString S wr ((unhide HT).none hg)).mono ?_
          rintro e w' ⟨rfl, hb⟩
          rw [hdec]
          exact ⟨by simp only; rw [cast_toNat ha], below_grownBy hb _⟩
        have HG := hide hG
        have HH := hide hH
        have HRR := hide hR
        have Hg := hide hg
        clear hH hG hR hg HR hdec
        go_wp2_with fail
        refine (unhide HD).mono ?_
        rintro e w1 ⟨rfl, hg1⟩
        have hbase1 : w.heap.size ≤ w1.heap.size := Nat.le_trans (unhide Hg).size hg1.size
        have htl : (W.take k).length < 100000 := by rw [List.length_take]; omega
        have hbl := behind_le (W.take k) a
        obtain ⟨v0, hlook, hrow0, hstep⟩ := ((unhide HG).later hg1).look ha t htl
        have hl1 := hlook w1.drew (grownBy_drew (grownBy_refl _ _))
        have hl2 := hlook (w1.alloc (.cells #[.string ⟨(encW t).toArray⟩] 9)).drew (grownBy_drew (grownBy_none_alloc _ _))
        have hrow1 : w1.drew.ownsRow w.heap.size 9 1 v0 (behind (W.take k) a).length ((behind (W.take k) a).map fun t => encStr (encW t)) := hrow0.drew
        have HS := hide hstep
        have HL := hide hlook
        have HR0 := hide hrow0
        have hle : m ≤ S.size := by omega
        have hlei : (m : Int) ≤ (S.size : Int) := by omega
        clear hsz
        obtain ⟨i0, hi, hz0, hz1, hz2⟩ := info_parts info9
        clear hstep hlook hrow0 HD
        go_wp2
        have HON : Hid (∀ u ∈ [encStr (encW t)], u.oneCell' = true) := by
          intro u hu
          simp at hu
          subst hu
          rfl
        have HMX : Hid ((behind (W.take k) a).length + 1 ≤ maxLen) := by
          show _ ≤ maxLen
          unfold maxLen
          omega
        have HBY : Hid (((behind (W.take k) a).length + 1) * 16 ≤ 140737488355328) := by
          show _ ≤ _
          omega
        have HBS : Hid (w.heap.size ≤ (w1.drew.alloc (.cells #[.string ⟨(encW t).toArray⟩] 9)).heap.size) := by
          show _ ≤ _
          simp
          omega
        have HRW : Hid ((w1.drew.alloc (.cells #[.string ⟨(encW t).toArray⟩] 9)).ownsRow w.heap.size 9 1 v0 (behind (W.take k) a).length ((behind (W.take k) a).map fun t => encStr (encW t))) := hrow1.alloc _
        have HNW : Hid (∀ j u, [encStr (encW t)][j]? = some u → (w1.drew.alloc (.cells #[.string ⟨(encW t).toArray⟩] 9)).cell? ((⟨w1.heap.size, 0, none⟩ : Addr).add j) = some u) := slice_new w1.drew (encStr (encW t)) 9
        clear hrow1
        go_region_law (refine step_append_lies _ rfl _ _ 26 rfl w.heap.size 9 i0 _ 1 16 Tryz.underlying26 hi hz0 hz1 hz2 rfl (by decide) v0 _ _ (by simp [Act.eval]) (unhide HRW) ⟨w1.heap.size, 0, none⟩ 1 1 [encStr (encW t)] (by simp [Act.eval]) rfl (unhide HNW) (unhide HON) (by omega) (unhide HMX) (unhide HBY) (unhide HBS) _ rfl ?_; intro g' cap' w3 hown3 hg3 hloc3 hlt3; obtain ⟨w4, hrun4, hg4, hG4, hvb4⟩ := (unhide HS) (w1.drew.alloc (.cells #[.string ⟨(encW t).toArray⟩] 9)) w3 _ (gnone (grownBy_drew (grownBy_refl _ _)) (grownBy_none_alloc _ _)) hg3 hown3 (by rcases hloc3 with h | h; exact Or.inl h.symm; exact Or.inr (by rw [h]; rfl)))
        all_goals
          go_wp2
          go_roundw
          case rel =>
            have h0 : w1.grownBy (w1.drew.alloc (.cells #[.string ⟨(encW t).toArray⟩] 9)) none := gnone (grownBy_drew (grownBy_refl _ _)) (grownBy_none_alloc _ _)
            have hwa : w.grownBy (w1.drew.alloc (.cells #[.string ⟨(encW t).toArray⟩] 9)) none := gnone (gnone (unhide Hg) hg1) h0
            have hw3 : w.grownBy w3 none := gnew hwa hg3 (fun j e => by
              rcases hvb4 with h | ⟨q, h, hq⟩
              · rw [h] at e; cases e
              · rw [h] at e; cases e; exact hq)
            have keep : ∀ (q : Nat) (cs : Array Value), q ≠ w.heap.size + 1 + 1 → wr.heap[q]? = some (.cells cs 92 (0, 0)) → w4.heap[q]? = some (.cells cs 92 (0, 0)) := by
              intro q cs hq2 hq
              have ha1 : (w1.drew.alloc (.cells #[.string ⟨(encW t).toArray⟩] 9)).heap[q]? = some (.cells cs 92 (0, 0)) := ((gnone hg1 h0).block q (Array.getElem?_eq_some_iff.1 hq).1 (by simp)).trans hq
              have h3 : w3.heap[q]? = some (.cells cs 92 (0, 0)) := (hg3.block q (Array.getElem?_eq_some_iff.1 ha1).1 (fun e => by
                obtain ⟨_, cur, hc⟩ := row_block (unhide HRW) e.symm
                rw [ha1] at hc
                cases hc)).trans ha1
              exact (hg4.block q (Array.getElem?_eq_some_iff.1 h3).1 (fun e => hq2 (Option.some.inj e))).trans h3
            refine ⟨k + 1, by omega, by go_num, gnew hw3 hg4 (fun j e => by cases e; omega), keep _ _ (by omega) (unhide HRR), ?_, ?_⟩
            · rw [unhide HTK]
              have := keep _ _ (by omega) (unhide HH)
              simpa using this
            · rw [unhide HTK]
              exact hG4
          case measure => simp [intOf]; omega
    · obtain rfl : k = W.length := by omega
      rw [List.take_length] at HR
      obtain ⟨hg, hR, hH, hG⟩ := unhide HR
      have HG := hide hG
      have HH := hide hH
      have HRR := hide hR
      have Hg := hide hg
      clear hH hG hR hg HR HC
      have HK := hide (keys_rune (some (w.heap.size + 1 + 1)) wr)
      have HS : Hid (Calls Tryz.prog 79 #[.func (.func 106) #[] #[.pointer (some ⟨wr.heap.size, 0, none⟩)]] (wr.alloc (.cells #[.map (some (w.heap.size + 1 + 1))] 126)) fun e w' => ∃ v, e = .returned v ∧ RuneRow w' v (firsts W) ∧ (wr.alloc (.cells #[.map (some (w.heap.size + 1 + 1))] 126)).grownBy w' none) := by
        obtain ⟨D, U, G, a1, a2, a3, a4⟩ := (unhide HG).later (grownBy_none_alloc wr (.cells #[.map (some (w.heap.size + 1 + 1))] 126))
        have hle := heads_le W
        exact sorted_rune wr.heap.size (w.heap.size + 1 + 1) W.length D (heads W) _ (by simp) (by go_simp) a1 (by have := a1.size_le; omega) (nodup_heads W) a2 (by omega)
      go_wp2_with fail
      refine (unhide HK).mono ?_
      rintro e w' ⟨rfl, rfl⟩
      go_wp2_with fail
      refine (unhide HS).mono ?_
      rintro e w2 ⟨v, rfl, hrr, hg2⟩
      have hw2 : w.grownBy w2 none := gnone (gnone (unhide Hg) (grownBy_none_alloc _ _)) hg2
      have hG2 := ((unhide HG).later (grownBy_none_alloc _ _)).later hg2
      have hH2 : w2.heap[w.heap.size + 1]? = some (.cells #[.bool (decide ([] ∈ W)), .slice none 0 0] 92 (0, 0)) := ((gnone (grownBy_none_alloc _ _) hg2).block _ (Array.getElem?_eq_some_iff.1 (unhide HH)).1 (by simp)).trans (unhide HH)
      have hR2 : w2.heap[w.heap.size]? = some (.cells #[.bool false, .slice none 0 0] 92 (0, 0)) := ((gnone (grownBy_none_alloc _ _) hg2).block _ (Array.getElem?_eq_some_iff.1 (unhide HRR)).1 (by simp)).trans (unhide HRR)
      have H2 : Hid (w2.heap[w.heap.size]? = some (.cells #[.bool false, .slice none 0 0] 92 (0, 0)) ∧ w2.heap[w.heap.size + 1]? = some (.cells #[.bool (decide ([] ∈ W)), .slice none 0 0] 92 (0, 0)) ∧ Grp w.heap.size w2 (w.heap.size + 1 + 1) W ∧ Numb n0 w2 B mb F ∧ RuneRow w2 v (firsts W) ∧ Fr mb w w2 ∧ Below n0 w w2) :=
        ⟨hR2, hH2, hG2, (unhide HN).later hw2, hrr, Fr.none hw2, (grownBy_below hw2).mono hn0⟩
      have hvl : ∃ ad cap, v = .slice ad (firsts W).length cap ∧ (0 < (firsts W).length → ∃ gr, ad = some ⟨gr, 0, none⟩) := by
        rcases hrr with ⟨rfl, h0⟩ | ⟨gr, cap, c, rfl, _⟩
        · exact ⟨none, 0, by rw [h0]; rfl, fun h => by rw [h0] at h; cases h⟩
        · exact ⟨_, _, rfl, fun _ => ⟨gr, rfl⟩⟩
      obtain ⟨ad, vcap, rfl, had⟩ := hvl
      have hfl : (firsts W).length ≤ 40 := by rw [(firsts_perm W).length_eq]; exact Nat.le_trans (heads_le W) hWl
      clear hG2 hH2 hR2 hrr hg2 HK HS HG HH HRR
      go_wp2_with fail
      go_loopw [43] (fun i wx => ∃ (j : Nat) (va : Value), j ≤ (firsts W).length ∧ i = .int .i64 j ∧ Hid (wx.heap[w.heap.size]? = some (.cells #[.bool false, .slice none 0 0] 92 (0, 0)) ∧ wx.heap[w.heap.size + 1]? = some (.cells #[.bool (decide ([] ∈ W)), va] 92 (0, 0)) ∧ Grp w.heap.size wx (w.heap.size + 1 + 1) W ∧ Numb n0 wx B mb (meetsR W ((firsts W).take j) F) ∧ RuneRow wx (.slice ad (firsts W).length vcap) (firsts W) ∧ Fr mb w wx ∧ Below n0 w wx ∧ Arr w.heap.size wx va (arrowsR W ((firsts W).take j) F))) (fun i _ => (firsts W).length - (intOf i).toNat)
      case atStart =>
        obtain ⟨a1, a2, a3, a4, a5, a6, a7⟩ := unhide H2
        exact ⟨0, .slice none 0 0, Nat.zero_le _, rfl, a1, a2, a3, a4, a5, a6, a7, World.ownsRow_nil _ _ _ _⟩
      case round =>
        clear H2
        obtain ⟨j, va, hj, rfl, HX⟩ := hrel
        by_cases hlt2 : j < (firsts W).length
        · obtain ⟨gr, rfl⟩ := had (by omega)
          obtain ⟨b1, b2, b3, b4, b5, b6, b7, b8⟩ := unhide HX
          have htk := take_snoc (firsts W) j 0 hlt2
          have hmem : (firsts W).getD j 0 ∈ firsts W := by simp [List.getD, hlt2]
          have hcell : wr.cell? ⟨gr, j, none⟩ = some (.int .i32 ((firsts W).getD j 0)) := by
            rcases b5 with ⟨h, _⟩ | ⟨gr', cap', c', hv', _, hc'⟩
            · cases h
            · injection hv' with e1 _ _
              injection e1 with e1
              injection e1 with e1
              subst e1
              exact hc' j hlt2
          generalize (firsts W).getD j 0 = r at htk hmem hcell
          obtain ⟨t0, ht0⟩ := mem_firsts.1 hmem
          have hrOk : RuneOk r := (hFW _ ht0 r (List.mem_cons_self ..)).1
          obtain ⟨D, U, G, a1, a2, a3, a4⟩ := b3
          obtain ⟨c1, c2, c3⟩ := a3 r (mem_heads.2 ⟨t0, ht0⟩)
          have hlook := held_look (a1.drew) hrOk (c1 _)
          have hF1 : ∀ V ∈ meetsR W ((firsts W).take j) F, Fine V := meetsR_all W _ _ hF (fun q _ => behind_fine hFW q)
          have hF1l : (meetsR W ((firsts W).take j) F).length < 100000 := by
            have := (meetsR_len W ((firsts W).take j) F).2
            rw [List.length_take] at this
            omega
          have HN57 := hide (number_any n0 B mb (meetsR W ((firsts W).take j) F) (U r) (behind W r) wr.drew (b4.later (grownBy_drew (grownBy_refl _ _))) (row_base c3.drew (Nat.zero_le _)) hF1 (behind_fine hFW r) hF1l
            (key_bound (Nat.le_trans (behind_le W r) hWl) (behind_ten hw10 r)) (by have := behind_le W r; omega) (Nat.le_trans hn0 b6.size))
          have hmeet := meets_snoc W r ((firsts W).take j) F
          have harr := arrows_snoc W r ((firsts W).take j) F
          rw [← htk] at hmeet harr
          rw [← hmeet] at HN57
          have hal : (arrowsR W ((firsts W).take j) F).length ≤ 40 := by
            have := congrArg List.length (arrowsR_fst W ((firsts W).take j) F)
            rw [List.length_map, List.length_take] at this
            omega
          generalize (meetsR W ((firsts W).take j) F).idxOf (behind W r) = c at HN57 harr
          have hB1 : wr.cell? ⟨w.heap.size + 1, 1, none⟩ = some va := by rw [cell_of_row _ _ _ _ _ _ b2]; rfl
          have hwxl := b6.size
          have HAR := hide harr
          obtain ⟨i0, hi, hz0, hz1, hz2⟩ := info_parts info134
          have HON : Hid (∀ u ∈ encA (r, c), u.oneCell' = true) := by
            intro u hu
            simp [encA] at hu
            rcases hu with rfl | rfl <;> rfl
          have HMX : Hid ((arrowsR W ((firsts W).take j) F).length + 1 ≤ maxLen) := by
            show _ ≤ maxLen
            unfold maxLen
            omega
          have HBY : Hid (((arrowsR W ((firsts W).take j) F).length + 1) * 16 ≤ 140737488355328) := by
            show _ ≤ _
            omega
          have HRN : Hid (∀ (w5 w6 : World) (cs : Array Value) (g' cap' : Nat) (F' : List (List Rs)), Fr mb wr.drew w5 → Below n0 wr.drew w5 → Numb n0 w5 B mb F' → (w5.alloc (.cells cs 134)).grownBy w6 va.ownBlock → w6.ownsRow w.heap.size 134 2 (.slice (some ⟨g', 0, none⟩) ((arrowsR W ((firsts W).take j) F).length + 1) cap') ((arrowsR W ((firsts W).take j) F).length + 1) ((arrowsR W ((firsts W).take j) F).flatMap encA ++ encA (r, c)) → _) := fun w5 w6 cs g' cap' F' e1 e2 e3 e4 e5 => round_next b1 b2 ⟨D, U, G, a1, a2, a3, a4⟩ b5 b6 b7 b8 hmbl b4.found.obj hn0 e1 e2 e3 e4 e5
          have HC5 : Hid (∀ w5, Fr mb wr.drew w5 → w5.heap[w.heap.size + 1]? = some (.cells #[.bool (decide ([] ∈ W)), va] 92 (0, 0)) ∧ w5.cell? ⟨w.heap.size + 1, 1, none⟩ = some va ∧ (w5.alloc (.cells #[.int .i32 r, .int .i64 (c : Nat)] 134)).cell? ⟨w.heap.size + 1, 1, none⟩ = some va ∧ Arr w.heap.size (w5.alloc (.cells #[.int .i32 r, .int .i64 (c : Nat)] 134)) va (arrowsR W ((firsts W).take j) F)) := by
            intro w5 hf5
            have h5 : w5.heap[w.heap.size + 1]? = some (.cells #[.bool (decide ([] ∈ W)), va] 92 (0, 0)) := by
              refine hf5.block _ _ b2 ?_ (fun c f e => by injection e with _ e2; exact absurd e2 (by decide)) (fun c f e => by injection e with _ e2; exact absurd e2 (by decide))
              intro e
              obtain ⟨es, clock, hm⟩ := b4.found.obj
              rw [← e, b2] at hm
              cases hm
            have hc5 : w5.cell? ⟨w.heap.size + 1, 1, none⟩ = some va := by rw [cell_of_row _ _ _ _ _ _ h5]; rfl
            refine ⟨h5, hc5, (grownBy_none_alloc w5 _).cell hc5 (by simp), ?_⟩
            have hr5 : w5.ownsRow w.heap.size 134 2 va _ _ := hf5.row b8.drew (by decide) (by decide) (fun c f e => by
              obtain ⟨es, clock, hm⟩ := b4.found.obj
              have e' : wr.heap[mb]? = _ := e
              rw [hm] at e'
              cases e')
            exact hr5.alloc _
          clear b1 b2 b4 b5 b6 b7 b8 a1 a2 a3 a4 c1 c2 c3 harr hmeet htk HX hF1 hF1l
          go_wp2
          go_region_law? (first
            | (go_simp; go_at_call 57; refine (unhide HN57).mono ?_; rintro e w5 ⟨rfl, hN5, hF5, hB5⟩; have hc5 := (unhide HC5 w5 hF5).2.1; have hc5a := (unhide HC5 w5 hF5).2.2.1)
            | (refine step_append_lies _ rfl _ _ 90 rfl w.heap.size 134 i0 _ 2 16 Tryz.underlying90 hi hz0 hz1 hz2 rfl (by decide) va _ _ (by simp [Act.eval]) (unhide HC5 w5 hF5).2.2.2 ⟨w5.heap.size, 0, none⟩ 1 1 (encA (r, c)) (by simp [Act.eval]) rfl (pair_new w5 r c 134) (unhide HON) (by omega) (unhide HMX) (unhide HBY) (by have : wr.heap.size ≤ w5.heap.size := hF5.size; simp; omega) _ rfl ?_; intro g' cap' w6 hown6 hg6 hloc6 hlt6; obtain ⟨h62, HR7⟩ := unhide HRN w5 w6 _ g' cap' _ hF5 hB5 hN5 hg6 hown6; have h6c : w6.cell? ⟨w.heap.size + 1, 1, none⟩ = some va := (by rw [cell_of_row _ _ _ _ _ _ h62]; rfl); have h6f : w6.frozen? ⟨w.heap.size + 1, 1, none⟩ = false := (by simp [World.frozen?, h62]); have HR7 := hide HR7; clear h62 hloc6 hlt6 hg6))
          all_goals
            go_wp2
            go_roundw
            case rel =>
              obtain ⟨d1, d2, d3, d4, d5, d6, d7, d8⟩ := unhide HR7 _ rfl
              exact ⟨j + 1, _, by omega, by go_num, d1, d2, d3, d4, d5, d6, d7, by rw [unhide HAR]; exact d8⟩
            case measure => simp [intOf]; omega
        · obtain rfl : j = (firsts W).length := by omega
          obtain ⟨b1, b2, b3, b4, b5, b6, b7, b8⟩ := unhide HX
          rw [List.take_length] at b4 b8
          have hB0 : wr.cell? ⟨w.heap.size + 1, 0, none⟩ = some (.bool (decide ([] ∈ W))) := by rw [cell_of_row _ _ _ _ _ _ b2]; rfl
          have hB1 : wr.cell? ⟨w.heap.size + 1, 1, none⟩ = some va := by rw [cell_of_row _ _ _ _ _ _ b2]; rfl
          have hR0 : wr.cell? ⟨w.heap.size, 0, none⟩ = some (.bool false) := by rw [cell_of_row _ _ _ _ _ _ b1]; rfl
          have hR1 : wr.cell? ⟨w.heap.size, 1, none⟩ = some (.slice none 0 0) := by rw [cell_of_row _ _ _ _ _ _ b1]; rfl
          have hfR0 : wr.frozen? ⟨w.heap.size, 0, none⟩ = false := by simp [World.frozen?, b1]
          have hfR1 : wr.frozen? ⟨w.heap.size, 1, none⟩ = false := by simp [World.frozen?, b1]
          have H1 := hide b1
          have H4 := hide b4
          have H6 := hide b6
          have H7 := hide b7
          have H8 := hide b8
          obtain ⟨vad, vn, vc, rfl⟩ : ∃ vad vn vc, va = .slice vad vn vc := by
            rcases b8.2 with ⟨h, _⟩ | ⟨q, qc, cur, h, _⟩
            · exact ⟨_, _, _, h⟩
            · exact ⟨_, _, _, h⟩
          clear b1 b2 b3 b4 b5 b6 b7 b8 HX
          go_wp2
          have g1 : wr.grownBy (wr.setCell ⟨w.heap.size, 0, none⟩ (.bool (decide ([] ∈ W)))) (some w.heap.size) := grown_set _ _ _ _
          have g2 : (wr.setCell ⟨w.heap.size, 0, none⟩ (.bool (decide ([] ∈ W)))).grownBy ((wr.setCell ⟨w.heap.size, 0, none⟩ (.bool (decide ([] ∈ W)))).setCell ⟨w.heap.size, 1, none⟩ (.slice vad vn vc)) (some w.heap.size) := grown_set _ _ _ _
          have g12 := gtrans g1 g2
          have h7 : ((wr.setCell ⟨w.heap.size, 0, none⟩ (.bool (decide ([] ∈ W)))).setCell ⟨w.heap.size, 1, none⟩ (.slice vad vn vc)).heap[w.heap.size]? = some (.cells #[.bool (decide ([] ∈ W)), .slice vad vn vc] 92 (0, 0)) := by
            simp [World.setCell, Array.getElem?_modify, unhide H1]
          have hq0 : ((wr.setCell ⟨w.heap.size, 0, none⟩ (.bool (decide ([] ∈ W)))).setCell ⟨w.heap.size, 1, none⟩ (.slice vad vn vc)).cell? ⟨w.heap.size, 0, none⟩ = some (.bool (decide ([] ∈ W))) := by rw [cell_of_row _ _ _ _ _ _ h7]; rfl
          have hq1 : ((wr.setCell ⟨w.heap.size, 0, none⟩ (.bool (decide ([] ∈ W)))).setCell ⟨w.heap.size, 1, none⟩ (.slice vad vn vc)).cell? ⟨w.heap.size, 1, none⟩ = some (.slice vad vn vc) := by rw [cell_of_row _ _ _ _ _ _ h7]; rfl
          refine bodyPost_ret (v := .agg #[.bool (decide ([] ∈ W)), .slice vad vn vc]) (by simp [results, Tryz.results58, go_sem, hq0, hq1]) rfl ?_
          refine ⟨_, rfl, row_base (row_off (unhide H8) g12 ?_) (Nat.zero_le _), (unhide H4).off g12 (fun q e => ?_), (unhide H6).new g12 (fun q e => by cases e; exact Nat.le_refl _), (unhide H7).grown g12 (Nat.le_trans hn0 (unhide H7).size) (fun q e => by cases e; exact hn0)⟩
          · cases hub : (Value.slice vad vn vc).ownBlock with
            | none => exact Or.inl rfl
            | some q =>
              refine Or.inr fun e => ?_
              cases e
              obtain ⟨_, cur, hc⟩ := row_block (unhide H8) hub
              rw [unhide H1] at hc
              cases hc
          · cases e
            exact ⟨_, _, _, unhide H1, by decide, by decide, by decide, by decide⟩

end Go.Proofs.YtdfnngehhiociaaGreatDoor
