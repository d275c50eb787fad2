import Derived.Test.YtdfnngehhiociaaGreatDoorRunes
import Derived.Lib.ItoaNum
import Derived.Lib.ItoaMem
import Derived.Lib.AtoiAllCases
import Derived.Lib.SlTrimSet
import Derived.Lib.Strings
namespace Go.Proofs.YtdfnngehhiociaaGreatDoor

/-- A word, as its runes. -/
abbrev Rs := List Int

/-- What follows a rune in one word. -/
def tailOf (r : Int) : Rs → Option Rs
  | [] => none
  | a :: t => if a = r then some t else none

/-- What follows the rune in those words that begin with it. -/
def behind (W : List Rs) (r : Int) : List Rs := W.filterMap (tailOf r)

/-- The runes with which words begin, each once. -/
def heads : List Rs → List Int
  | [] => []
  | [] :: W => heads W
  | (a :: _) :: W => if a ∈ heads W then heads W else a :: heads W

/-- The same, rising. -/
def firsts (W : List Rs) : List Int := (heads W).mergeSort fun a b => decide (a ≤ b)

theorem tailOf_some {r : Int} {w t : Rs} : tailOf r w = some t ↔ w = r :: t := by
  cases w with
  | nil => simp [tailOf]
  | cons a u =>
    unfold tailOf
    by_cases h : a = r
    · simp [h]
    · simp [h]

theorem mem_behind {W : List Rs} {r : Int} {t : Rs} : t ∈ behind W r ↔ (r :: t) ∈ W := by
  unfold behind
  rw [List.mem_filterMap]
  constructor
  · rintro ⟨w, hw, h⟩
    rw [tailOf_some] at h
    exact h ▸ hw
  · intro h
    exact ⟨_, h, tailOf_some.2 rfl⟩

theorem mem_heads {W : List Rs} {r : Int} : r ∈ heads W ↔ ∃ t, (r :: t) ∈ W := by
  induction W with
  | nil => simp [heads]
  | cons w W ih =>
    cases w with
    | nil =>
      rw [heads, ih]
      simp
    | cons a u =>
      rw [heads]
      by_cases h : a ∈ heads W
      · rw [if_pos h, ih]
        constructor
        · rintro ⟨t, ht⟩; exact ⟨t, List.mem_cons_of_mem _ ht⟩
        · rintro ⟨t, ht⟩
          rcases List.mem_cons.1 ht with e | ht
          · injection e with e1 e2
            subst e1
            exact ih.1 h
          · exact ⟨t, ht⟩
      · rw [if_neg h, List.mem_cons, ih]
        constructor
        · rintro (rfl | ⟨t, ht⟩)
          · exact ⟨u, List.mem_cons_self ..⟩
          · exact ⟨t, List.mem_cons_of_mem _ ht⟩
        · rintro ⟨t, ht⟩
          rcases List.mem_cons.1 ht with e | ht
          · injection e with e1 e2
            exact Or.inl e1
          · exact Or.inr ⟨t, ht⟩

theorem nodup_heads (W : List Rs) : (heads W).Nodup := by
  induction W with
  | nil => simp [heads]
  | cons w W ih =>
    cases w with
    | nil => exact ih
    | cons a u =>
      rw [heads]
      by_cases h : a ∈ heads W
      · rw [if_pos h]; exact ih
      · rw [if_neg h]; exact List.nodup_cons.2 ⟨h, ih⟩

theorem firsts_perm (W : List Rs) : (firsts W).Perm (heads W) := List.mergeSort_perm _ _
theorem nodup_firsts (W : List Rs) : (firsts W).Nodup := (firsts_perm W).nodup_iff.2 (nodup_heads W)
theorem mem_firsts {W : List Rs} {r : Int} : r ∈ firsts W ↔ ∃ t, (r :: t) ∈ W := (firsts_perm W).mem_iff.trans mem_heads

/-- How many runes there are in all. -/
def weight (W : List Rs) : Nat := (W.map List.length).sum

theorem weight_nil : weight [] = 0 := rfl
theorem weight_cons (w : Rs) (W : List Rs) : weight (w :: W) = w.length + weight W := by simp [weight]

/-- A list's sum. -/
def total (f : Int → Nat) (R : List Int) : Nat := (R.map f).sum

theorem total_nil (f : Int → Nat) : total f [] = 0 := rfl
theorem total_cons (f : Int → Nat) (r : Int) (R : List Int) : total f (r :: R) = f r + total f R := by simp [total]

theorem total_congr {f g : Int → Nat} : ∀ {R : List Int}, (∀ r ∈ R, f r = g r) → total f R = total g R
  | [], _ => rfl
  | r :: R, h => by rw [total_cons, total_cons, h r (List.mem_cons_self ..), total_congr fun q hq => h q (List.mem_cons_of_mem _ hq)]

theorem behind_cons_nil (W : List Rs) (r : Int) : behind ([] :: W) r = behind W r := rfl
theorem behind_cons_same (W : List Rs) (r : Int) (t : Rs) : behind ((r :: t) :: W) r = t :: behind W r := by simp [behind, tailOf]
theorem behind_cons_other (W : List Rs) {a r : Int} (t : Rs) (h : a ≠ r) : behind ((a :: t) :: W) r = behind W r := by simp [behind, tailOf, h]

/-- What one rune's way weighs. -/
def cost (W : List Rs) (r : Int) : Nat := weight (behind W r) + (behind W r).length

theorem total_behind : ∀ (W : List Rs) (R : List Int), R.Nodup → total (cost W) R ≤ weight W
  | [], R, _ => by
    have : ∀ R : List Int, total (cost []) R = 0 := by
      intro R
      induction R with
      | nil => rfl
      | cons r R ih => rw [total_cons, ih]; rfl
    rw [this]; exact Nat.zero_le _
  | [] :: W, R, h => by
    rw [weight_cons]
    have e : total (cost ([] :: W)) R = total (cost W) R := total_congr fun r _ => by simp [cost, behind_cons_nil]
    rw [e]
    have := total_behind W R h
    simpa using this
  | (a :: t) :: W, R, h => by
    have ih := total_behind W
    have key : ∀ R : List Int, R.Nodup → total (cost ((a :: t) :: W)) R ≤ total (cost W) R + (if a ∈ R then t.length + 1 else 0) := by
      intro R
      induction R with
      | nil => intro _; simp [total_nil]
      | cons r R ihR =>
        intro hn
        have hn := List.nodup_cons.1 hn
        rw [total_cons, total_cons]
        by_cases har : a = r
        · subst har
          have e : total (cost ((a :: t) :: W)) R = total (cost W) R := total_congr fun q hq => by
            have hne : a ≠ q := fun e => hn.1 (e ▸ hq)
            simp [cost, behind_cons_other W t hne]
          rw [e]
          simp only [cost, behind_cons_same, weight_cons, List.length_cons, List.mem_cons, true_or, if_true]
          omega
        · have e : cost ((a :: t) :: W) r = cost W r := by simp [cost, behind_cons_other W t har]
          rw [e]
          have hmem : (a ∈ r :: R) ↔ a ∈ R := by simp [har]
          have := ihR hn.2
          by_cases ha : a ∈ R
          · rw [if_pos ha] at this
            rw [if_pos (hmem.2 ha)]
            omega
          · rw [if_neg ha] at this
            rw [if_neg (fun c => ha (hmem.1 c))]
            omega
    have k := key R h
    have i := ih R h
    rw [weight_cons, List.length_cons]
    by_cases ha : a ∈ R
    · rw [if_pos ha] at k; omega
    · rw [if_neg ha] at k; omega

/-- A state: whether a word may end there; its arrows. -/
abbrev St := Bool × List (Int × Nat)

/-- The words are met: they get the next number, if they have none. -/
def meetR (F : List (List Rs)) (W : List Rs) : List (List Rs) := if W ∈ F then F else F ++ [W]

def arrowsR (W : List Rs) : List Int → List (List Rs) → List (Int × Nat)
  | [], _ => []
  | r :: rs, F => (r, F.idxOf (behind W r)) :: arrowsR W rs (meetR F (behind W r))
def meetsR (W : List Rs) : List Int → List (List Rs) → List (List Rs)
  | [], F => F
  | r :: rs, F => meetsR W rs (meetR F (behind W r))

def stateR (W : List Rs) (F : List (List Rs)) : St := (decide ([] ∈ W), arrowsR W (firsts W) F)

def stepR (q : List St × List (List Rs)) : List St × List (List Rs) :=
  match q.2[q.1.length]? with
  | none => q
  | some W => (q.1 ++ [stateR W q.2], meetsR W (firsts W) q.2)

def iterR (W0 : List Rs) : Nat → List St × List (List Rs)
  | 0 => ([], [W0])
  | n + 1 => stepR (iterR W0 n)

/-- The graph of the words. -/
def graphR (W0 : List Rs) : List St := (iterR W0 (weight W0 + 1)).1

theorem meetR_mem (F : List (List Rs)) (W : List Rs) : W ∈ meetR F W := by
  unfold meetR
  by_cases h : W ∈ F
  · rw [if_pos h]; exact h
  · rw [if_neg h]; simp
theorem meetR_old {F : List (List Rs)} {W V : List Rs} (h : V ∈ F) : V ∈ meetR F W := by
  unfold meetR
  by_cases hW : W ∈ F
  · rw [if_pos hW]; exact h
  · rw [if_neg hW]; simp [h]
theorem meetR_at {F : List (List Rs)} {W V : List Rs} {i : Nat} (h : F[i]? = some V) : (meetR F W)[i]? = some V := by
  unfold meetR
  by_cases hW : W ∈ F
  · rw [if_pos hW]; exact h
  · rw [if_neg hW, List.getElem?_append_left (List.getElem?_eq_some_iff.1 h).1]; exact h
theorem meetR_idx (F : List (List Rs)) (W : List Rs) : (meetR F W)[F.idxOf W]? = some W := by
  unfold meetR
  by_cases hW : W ∈ F
  · rw [if_pos hW]
    have hl := List.idxOf_lt_length_of_mem hW
    rw [List.getElem?_eq_getElem hl, List.getElem_idxOf hl]
  · rw [if_neg hW, List.idxOf_eq_length hW]; simp
theorem meetR_nodup {F : List (List Rs)} (h : F.Nodup) (W : List Rs) : (meetR F W).Nodup := by
  unfold meetR
  by_cases hW : W ∈ F
  · rw [if_pos hW]; exact h
  · rw [if_neg hW]
    exact List.nodup_append.2 ⟨h, by simp, fun a ha c hc => by simp at hc; subst hc; exact fun e => hW (e ▸ ha)⟩
theorem meetR_len (F : List (List Rs)) (W : List Rs) : F.length ≤ (meetR F W).length ∧ (meetR F W).length ≤ F.length + 1 := by
  unfold meetR
  by_cases hW : W ∈ F
  · rw [if_pos hW]; omega
  · rw [if_neg hW]; simp

/-- A sum over the lists from number n on. -/
def sumFrom (f : List Rs → Nat) (F : List (List Rs)) (n : Nat) : Nat := ((F.drop n).map f).sum

theorem sumFrom_meet (f : List Rs → Nat) (F : List (List Rs)) (W : List Rs) (n : Nat) (hn : n ≤ F.length) : sumFrom f (meetR F W) n ≤ sumFrom f F n + f W := by
  unfold meetR
  by_cases hW : W ∈ F
  · rw [if_pos hW]; omega
  · rw [if_neg hW]
    unfold sumFrom
    rw [List.drop_append_of_le_length hn]
    simp

theorem sumFrom_at (f : List Rs → Nat) {F : List (List Rs)} {W : List Rs} {n : Nat} (h : F[n]? = some W) : sumFrom f F n = f W + sumFrom f F (n + 1) := by
  obtain ⟨hl, he⟩ := List.getElem?_eq_some_iff.1 h
  unfold sumFrom
  rw [List.drop_eq_getElem_cons hl, List.map_cons, List.sum_cons, he]

theorem meetsR_len (W : List Rs) : ∀ (R : List Int) (F : List (List Rs)), F.length ≤ (meetsR W R F).length ∧ (meetsR W R F).length ≤ F.length + R.length
  | [], F => ⟨Nat.le_refl _, Nat.le_refl _⟩
  | r :: R, F => by
    have h1 := meetR_len F (behind W r)
    have h2 := meetsR_len W R (meetR F (behind W r))
    rw [meetsR, List.length_cons]
    omega

theorem meetsR_sum (f : List Rs → Nat) (W : List Rs) (n : Nat) : ∀ (R : List Int) (F : List (List Rs)), n ≤ F.length → sumFrom f (meetsR W R F) n ≤ sumFrom f F n + total (fun r => f (behind W r)) R
  | [], F, _ => by rw [meetsR, total_nil]; omega
  | r :: R, F, hn => by
    have h1 := sumFrom_meet f F (behind W r) n hn
    have h2 := meetsR_sum f W n R (meetR F (behind W r)) (by have := (meetR_len F (behind W r)).1; omega)
    rw [meetsR, total_cons]
    omega

theorem meetsR_nodup (W : List Rs) : ∀ (R : List Int) (F : List (List Rs)), F.Nodup → (meetsR W R F).Nodup
  | [], _, h => h
  | _ :: R, _, h => meetsR_nodup W R _ (meetR_nodup h _)
theorem meetsR_at (W : List Rs) {V : List Rs} {i : Nat} : ∀ (R : List Int) (F : List (List Rs)), F[i]? = some V → (meetsR W R F)[i]? = some V
  | [], _, h => h
  | _ :: R, _, h => meetsR_at W R _ (meetR_at h)
theorem meetsR_all {Q : List Rs → Prop} (W : List Rs) : ∀ (R : List Int) (F : List (List Rs)), (∀ V ∈ F, Q V) → (∀ r ∈ R, Q (behind W r)) → ∀ V ∈ meetsR W R F, Q V
  | [], _, h, _ => h
  | r :: R, F, h, hr => by
    refine meetsR_all W R _ ?_ (fun q hq => hr q (List.mem_cons_of_mem _ hq))
    intro V hV
    unfold meetR at hV
    by_cases hm : behind W r ∈ F
    · rw [if_pos hm] at hV; exact h V hV
    · rw [if_neg hm] at hV
      rcases List.mem_append.1 hV with hV | hV
      · exact h V hV
      · simp at hV; subst hV; exact hr r (List.mem_cons_self ..)

theorem arrowsR_fst (W : List Rs) : ∀ (R : List Int) (F : List (List Rs)), (arrowsR W R F).map Prod.fst = R
  | [], _ => rfl
  | r :: R, F => by rw [arrowsR, List.map_cons, arrowsR_fst W R]
theorem arrowsR_to (W : List Rs) : ∀ (R : List Int) (F : List (List Rs)), ∀ q ∈ arrowsR W R F, (meetsR W R F)[q.2]? = some (behind W q.1)
  | [], _, q, h => by cases h
  | r :: R, F, q, h => by
    rw [arrowsR] at h
    rw [meetsR]
    rcases List.mem_cons.1 h with rfl | h
    · exact meetsR_at W R _ (meetR_idx F _)
    · exact arrowsR_to W R _ q h

structure GInv (W0 : List Rs) (g : List St) (F : List (List Rs)) : Prop where
  nodup : F.Nodup
  zero : F[0]? = some W0
  le : g.length ≤ F.length
  here : ∀ (i : Nat) (st : St), g[i]? = some st → ∃ W, F[i]? = some W ∧ st.1 = decide ([] ∈ W) ∧ st.2.map Prod.fst = firsts W ∧ ∀ q ∈ st.2, F[q.2]? = some (behind W q.1)
  arrows : (g.map fun st => st.2.length).sum + sumFrom weight F g.length ≤ weight W0
  states : F.length ≤ 1 + (g.map fun st => st.2.length).sum
  all : ∀ Q : List Rs → Prop, Q W0 → (∀ V r, Q V → r ∈ firsts V → Q (behind V r)) → ∀ W ∈ F, Q W

theorem GInv.begin (W0 : List Rs) : GInv W0 [] [W0] where
  nodup := by simp
  zero := rfl
  le := by simp
  here := fun i st h => by simp at h
  arrows := by simp [sumFrom]
  states := by simp
  all := fun Q h _ W hW => by simp at hW; subst hW; exact h

theorem firsts_pos {W : List Rs} {r : Int} (h : r ∈ firsts W) : 0 < (behind W r).length := by
  obtain ⟨t, ht⟩ := mem_firsts.1 h
  exact List.length_pos_of_mem (mem_behind.2 ht)

theorem total_le_of {f g : Int → Nat} : ∀ {R : List Int}, (∀ r ∈ R, f r ≤ g r) → total f R ≤ total g R
  | [], _ => Nat.le_refl _
  | r :: R, h => by
    rw [total_cons, total_cons]
    have h1 := h r (List.mem_cons_self ..)
    have h2 := total_le_of fun q hq => h q (List.mem_cons_of_mem _ hq)
    omega
theorem total_succ (f : Int → Nat) : ∀ R : List Int, total (fun r => f r + 1) R = total f R + R.length
  | [] => rfl
  | r :: R => by rw [total_cons, total_cons, total_succ f R, List.length_cons]; omega

theorem total_weight (W : List Rs) : total (fun r => weight (behind W r)) (firsts W) + (firsts W).length ≤ weight W := by
  rw [← total_succ]
  refine Nat.le_trans (total_le_of ?_) (total_behind W _ (nodup_firsts W))
  intro r hr
  have := firsts_pos hr
  unfold cost
  omega

theorem GInv.step {W0 : List Rs} {g : List St} {F : List (List Rs)} (h : GInv W0 g F) {W : List Rs} (hW : F[g.length]? = some W) : GInv W0 (g ++ [stateR W F]) (meetsR W (firsts W) F) := by
  have hl := (List.getElem?_eq_some_iff.1 hW).1
  have hlen := meetsR_len W (firsts W) F
  have hal : (stateR W F).2.length = (firsts W).length := by
    have := congrArg List.length (arrowsR_fst W (firsts W) F)
    simpa [stateR] using this
  have hsum : ((g ++ [stateR W F]).map fun st => st.2.length).sum = (g.map fun st => st.2.length).sum + (firsts W).length := by
    rw [List.map_append, List.sum_append, ← hal]; simp
  refine ⟨meetsR_nodup W _ _ h.nodup, meetsR_at W _ _ h.zero, by simp; omega, ?_, ?_, ?_, ?_⟩
  · intro i st hi
    by_cases hig : i < g.length
    · rw [List.getElem?_append_left hig] at hi
      obtain ⟨V, h1, h2, h3, h4⟩ := h.here i st hi
      exact ⟨V, meetsR_at W _ _ h1, h2, h3, fun q hq => meetsR_at W _ _ (h4 q hq)⟩
    · have hi' := (List.getElem?_eq_some_iff.1 hi).1
      have e : i = g.length := by simp at hi'; omega
      subst e
      simp at hi
      subst hi
      exact ⟨W, meetsR_at W _ _ hW, rfl, arrowsR_fst W _ _, arrowsR_to W _ _⟩
  · rw [hsum]
    have h1 := meetsR_sum weight W (g.length + 1) (firsts W) F hl
    have h2 := sumFrom_at weight hW
    have h3 := h.arrows
    have h4 := total_weight W
    simp only [List.length_append, List.length_singleton]
    omega
  · rw [hsum]
    have := h.states
    omega
  · intro Q q0 qs
    have hF := h.all Q q0 qs
    exact meetsR_all W _ _ hF (fun r hr => qs W r (hF W (List.mem_of_getElem? hW)) hr)

theorem GInv.iter (W0 : List Rs) : ∀ n, GInv W0 (iterR W0 n).1 (iterR W0 n).2
  | 0 => GInv.begin W0
  | n + 1 => by
    have h := GInv.iter W0 n
    show GInv W0 (stepR (iterR W0 n)).1 (stepR (iterR W0 n)).2
    unfold stepR
    cases hW : (iterR W0 n).2[(iterR W0 n).1.length]? with
    | none => exact h
    | some W => exact h.step hW

/-- What is still to be done. -/
def todo (q : List St × List (List Rs)) : Nat := sumFrom (fun W => weight W + 1) q.2 q.1.length

theorem todo_step {q : List St × List (List Rs)} (hq : q.1.length < q.2.length) : todo (stepR q) < todo q := by
  have hW := List.getElem?_eq_getElem hq
  generalize q.2[q.1.length] = W at hW
  unfold stepR todo
  rw [hW]
  have h1 := meetsR_sum (fun W => weight W + 1) W (q.1.length + 1) (firsts W) q.2 hq
  have h2 := sumFrom_at (fun W => weight W + 1) hW
  have h4 := total_weight W
  rw [total_succ (fun r => weight (behind W r))] at h1
  simp only [List.length_append, List.length_singleton]
  omega

theorem todo_iter (W0 : List Rs) : ∀ n, (iterR W0 n).1.length = (iterR W0 n).2.length ∨ todo (iterR W0 n) + n ≤ weight W0 + 1
  | 0 => Or.inr (by simp [iterR, todo, sumFrom])
  | n + 1 => by
    have hi := GInv.iter W0 n
    by_cases hq : (iterR W0 n).1.length < (iterR W0 n).2.length
    · rcases todo_iter W0 n with h | h
      · omega
      · refine Or.inr ?_
        have := todo_step hq
        show todo (stepR (iterR W0 n)) + (n + 1) ≤ _
        omega
    · refine Or.inl ?_
      show (stepR (iterR W0 n)).1.length = (stepR (iterR W0 n)).2.length
      have hn : (iterR W0 n).2[(iterR W0 n).1.length]? = none := List.getElem?_eq_none (by omega)
      unfold stepR
      rw [hn]
      have := hi.le
      show (iterR W0 n).1.length = (iterR W0 n).2.length
      omega

theorem todo_zero {q : List St × List (List Rs)} (h : todo q = 0) (hle : q.1.length ≤ q.2.length) : q.1.length = q.2.length := by
  apply Classical.byContradiction
  intro hne
  have hlt : q.1.length < q.2.length := by omega
  have := todo_step hlt
  omega

/-- The lists that stand behind the graph's states. -/
def listsR (W0 : List Rs) : List (List Rs) := (iterR W0 (weight W0 + 1)).2

theorem graph_inv (W0 : List Rs) : GInv W0 (graphR W0) (listsR W0) := GInv.iter W0 _
theorem graph_len (W0 : List Rs) : (graphR W0).length = (listsR W0).length := by
  rcases todo_iter W0 (weight W0 + 1) with h | h
  · exact h
  · exact todo_zero (by omega) (graph_inv W0).le

/-- At whatever count of steps it is done, it is the graph. -/
theorem iter_done (W0 : List Rs) (n : Nat) (h : (iterR W0 n).1.length = (iterR W0 n).2.length) : iterR W0 n = (graphR W0, listsR W0) := by
  have stay : ∀ k, ∀ n, (iterR W0 n).1.length = (iterR W0 n).2.length → iterR W0 (n + k) = iterR W0 n := by
    intro k n h
    induction k with
    | zero => rfl
    | succ k ih =>
      show stepR (iterR W0 (n + k)) = _
      rw [ih]
      have hn : (iterR W0 n).2[(iterR W0 n).1.length]? = none := List.getElem?_eq_none (by omega)
      unfold stepR
      rw [hn]
  have e1 := stay (weight W0 + 1) n h
  have e2 := stay n (weight W0 + 1) (graph_len W0)
  rw [Nat.add_comm] at e1
  rw [← e1, e2]
  rfl

/-- As few as can be. -/
theorem graph_le (W0 : List Rs) : (graphR W0).length ≤ 1 + weight W0 := by
  have h := graph_inv W0
  have h1 := h.states
  have h2 := h.arrows
  have := graph_len W0
  omega
theorem graph_pos (W0 : List Rs) : 1 ≤ (graphR W0).length := by
  have h := (graph_inv W0).zero
  have := (List.getElem?_eq_some_iff.1 h).1
  have := graph_len W0
  omega

/-- The longest word's length. -/
def longest : List Rs → Nat
  | [] => 0
  | w :: W => max w.length (longest W)
theorem le_longest {W : List Rs} {w : Rs} (h : w ∈ W) : w.length ≤ longest W := by
  induction W with
  | nil => cases h
  | cons v W ih =>
    rcases List.mem_cons.1 h with rfl | h
    · exact Nat.le_max_left ..
    · exact Nat.le_trans (ih h) (Nat.le_max_right ..)
theorem longest_le {W : List Rs} {k : Nat} (h : ∀ w ∈ W, w.length ≤ k) : longest W ≤ k := by
  induction W with
  | nil => exact Nat.zero_le _
  | cons v W ih => exact Nat.max_le.2 ⟨h v (List.mem_cons_self ..), ih fun w hw => h w (List.mem_cons_of_mem _ hw)⟩
theorem longest_behind {W : List Rs} {r : Int} {t : Rs} (h : (r :: t) ∈ W) : longest (behind W r) < longest W := by
  have h0 := le_longest h
  have : longest (behind W r) ≤ longest W - 1 := longest_le fun w hw => by
    have := le_longest (mem_behind.1 hw)
    simp at this
    omega
  simp at h0
  omega

/-- The lists along a word. -/
def along (W : List Rs) : Rs → List (List Rs)
  | [] => [W]
  | a :: t => W :: along (behind W a) t
theorem along_length : ∀ (w : Rs) (W : List Rs), (along W w).length = w.length + 1
  | [], _ => rfl
  | a :: t, W => by rw [along, List.length_cons, along_length t, List.length_cons]
theorem along_le : ∀ (w : Rs) (W : List Rs), w ∈ W → ∀ V ∈ along W w, longest V ≤ longest W
  | [], W, _, V, hV => by simp [along] at hV; subst hV; exact Nat.le_refl _
  | a :: t, W, h, V, hV => by
    rw [along] at hV
    rcases List.mem_cons.1 hV with rfl | hV
    · exact Nat.le_refl _
    · have h1 := along_le t (behind W a) (mem_behind.2 h) V hV
      have h2 := longest_behind h
      omega
theorem along_nodup : ∀ (w : Rs) (W : List Rs), w ∈ W → (along W w).Nodup
  | [], W, _ => by simp [along]
  | a :: t, W, h => by
    rw [along]
    refine List.nodup_cons.2 ⟨fun hm => ?_, along_nodup t _ (mem_behind.2 h)⟩
    have h1 := along_le t (behind W a) (mem_behind.2 h) W hm
    have h2 := longest_behind h
    omega
theorem along_sub {W0 : List Rs} {g : List St} {F : List (List Rs)} (h : GInv W0 g F) (hd : g.length = F.length) : ∀ (w : Rs) (W : List Rs), w ∈ W → W ∈ F → ∀ V ∈ along W w, V ∈ F
  | [], W, _, hF, V, hV => by simp [along] at hV; subst hV; exact hF
  | a :: t, W, hw, hF, V, hV => by
    rw [along] at hV
    rcases List.mem_cons.1 hV with rfl | hV
    · exact hF
    · refine along_sub h hd t (behind W a) (mem_behind.2 hw) ?_ V hV
      obtain ⟨i, hi⟩ := List.getElem?_of_mem hF
      have hil := (List.getElem?_eq_some_iff.1 hi).1
      obtain ⟨V', h1, h2, h3, h4⟩ := h.here i _ (List.getElem?_eq_getElem (by omega))
      rw [hi] at h1
      cases h1
      have ha : a ∈ firsts W := mem_firsts.2 ⟨t, hw⟩
      rw [← h3] at ha
      obtain ⟨q, hq, rfl⟩ := List.mem_map.1 ha
      exact List.mem_of_getElem? (h4 q hq)

theorem length_le_of_nodup {α : Type} [DecidableEq α] : ∀ (C F : List α), C.Nodup → (∀ x ∈ C, x ∈ F) → C.length ≤ F.length
  | [], _, _, _ => Nat.zero_le _
  | x :: C, F, hn, hs => by
    have hn := List.nodup_cons.1 hn
    have hx := hs x (List.mem_cons_self ..)
    have ih := length_le_of_nodup C (F.erase x) hn.2 (fun y hy => by
      have hne : y ≠ x := fun e => hn.1 (e ▸ hy)
      exact (List.mem_erase_of_ne hne).2 (hs y (List.mem_cons_of_mem _ hy)))
    rw [List.length_erase_of_mem hx] at ih
    have := List.length_pos_of_mem hx
    rw [List.length_cons]
    omega

theorem graph_ge {W0 : List Rs} {w : Rs} (h : w ∈ W0) : w.length + 1 ≤ (graphR W0).length := by
  have hi := graph_inv W0
  have hd := graph_len W0
  rw [hd, ← along_length w W0]
  exact length_le_of_nodup _ _ (along_nodup w W0 h) (along_sub hi hd w W0 h (List.mem_of_getElem? hi.zero))

theorem graph_one (w : Rs) : (graphR [w]).length = w.length + 1 := by
  have h1 := graph_le [w]
  have h2 := graph_ge (W0 := [w]) (w := w) (by simp)
  simp [weight] at h1
  omega

end Go.Proofs.YtdfnngehhiociaaGreatDoor

namespace Go.Proofs.YtdfnngehhiociaaGreatDoor
open Go.Lib

/-- A rune that UTF-8 can write. -/
def RuneOk (r : Int) : Prop := 0 ≤ r ∧ (r < 55296 ∨ 57343 < r) ∧ r ≤ 1114111

theorem toNat_byte {x : Int} (_h0 : 0 ≤ x) (h1 : x < 256) : (x.toNat.toUInt8).toNat = x.toNat := by
  simp
  omega

set_option maxHeartbeats 1000000 in
theorem decode_encode {r : Int} (h : RuneOk r) (t : List UInt8) : decodeL (encodeRune r ++ t) = (r.toNat, (encodeRune r).length) := by
  obtain ⟨h0, hs, h1⟩ := h
  rw [decodeL_N]
  by_cases c1 : r ≤ 127
  · have e : encodeRune r = [r.toNat.toUInt8] := by simp [encodeRune, encodeRuneZ_one h0 c1]
    rw [e]
    have b0 := toNat_byte h0 (show r < 256 by omega)
    simp only [List.cons_append, List.nil_append, List.getD_cons_zero, b0, List.length_cons, List.length_nil, decodeN]
    rw [if_pos (by omega)]
  · by_cases c2 : r ≤ 2047
    · have e : encodeRune r = [(192 + r / 64).toNat.toUInt8, (128 + r % 64).toNat.toUInt8] := by simp [encodeRune, encodeRuneZ_two (show 128 ≤ r by omega) c2]
      rw [e]
      have b0 := toNat_byte (x := 192 + r / 64) (by omega) (by omega)
      have b1 := toNat_byte (x := 128 + r % 64) (by omega) (by omega)
      simp only [List.cons_append, List.nil_append, List.getD_cons_zero, List.getD_cons_succ, b0, b1, List.length_cons, List.length_nil, decodeN]
      rw [if_neg (by omega), if_pos (by omega), if_pos (by omega)]
      congr 1
      omega
    · by_cases c3 : r ≤ 65535
      · have e : encodeRune r = [(224 + r / 4096).toNat.toUInt8, (128 + r / 64 % 64).toNat.toUInt8, (128 + r % 64).toNat.toUInt8] := by
          simp [encodeRune, encodeRuneZ_three (r := r) (by omega)]
        rw [e]
        have b0 := toNat_byte (x := 224 + r / 4096) (by omega) (by omega)
        have b1 := toNat_byte (x := 128 + r / 64 % 64) (by omega) (by omega)
        have b2 := toNat_byte (x := 128 + r % 64) (by omega) (by omega)
        simp only [List.cons_append, List.nil_append, List.getD_cons_zero, List.getD_cons_succ, b0, b1, b2, List.length_cons, List.length_nil, decodeN]
        rw [if_neg (by omega), if_neg (by omega), if_pos (by omega)]
        have hv : (224 + r / 4096).toNat % 16 * 4096 + (128 + r / 64 % 64).toNat % 64 * 64 + (128 + r % 64).toNat % 64 = r.toNat := by omega
        rw [hv, if_pos (by omega)]
      · have e : encodeRune r = [(240 + r / 262144).toNat.toUInt8, (128 + r / 4096 % 64).toNat.toUInt8, (128 + r / 64 % 64).toNat.toUInt8, (128 + r % 64).toNat.toUInt8] := by
          simp [encodeRune, encodeRuneZ_four (r := r) (by omega) h1]
        rw [e]
        have b0 := toNat_byte (x := 240 + r / 262144) (by omega) (by omega)
        have b1 := toNat_byte (x := 128 + r / 4096 % 64) (by omega) (by omega)
        have b2 := toNat_byte (x := 128 + r / 64 % 64) (by omega) (by omega)
        have b3 := toNat_byte (x := 128 + r % 64) (by omega) (by omega)
        simp only [List.cons_append, List.nil_append, List.getD_cons_zero, List.getD_cons_succ, b0, b1, b2, b3, List.length_cons, List.length_nil, decodeN]
        rw [if_neg (by omega), if_neg (by omega), if_neg (by omega), if_pos (by omega)]
        have hv : (240 + r / 262144).toNat % 8 * 262144 + (128 + r / 4096 % 64).toNat % 64 * 4096 + (128 + r / 64 % 64).toNat % 64 * 64 + (128 + r % 64).toNat % 64 = r.toNat := by omega
        rw [hv, if_pos (by omega)]

theorem encode_len (r : Int) : 1 ≤ (encodeRune r).length ∧ (encodeRune r).length ≤ 4 := by
  have := encodeRuneZ_length r
  simpa [encodeRune] using this

theorem decode_ok (l : List UInt8) (h : ¬ ((decodeL l).1 = 65533 ∧ (decodeL l).2 = 1)) : RuneOk ((decodeL l).1 : Int) := by
  rw [decodeL_N] at h ⊢
  revert h
  generalize (l.getD 0 0).toNat = b0
  generalize (l.getD 1 0).toNat = b1
  generalize (l.getD 2 0).toNat = b2
  generalize (l.getD 3 0).toNat = b3
  unfold decodeN RuneOk
  repeat' split
  all_goals intro h
  all_goals first | (exact absurd ⟨rfl, rfl⟩ h) | skip
  all_goals simp only
  all_goals omega

/-- A word's bytes. -/
def encW (w : Rs) : List UInt8 := w.flatMap encodeRune

theorem encW_nil : encW [] = [] := rfl
theorem encW_cons (r : Int) (w : Rs) : encW (r :: w) = encodeRune r ++ encW w := rfl
theorem encW_append (v w : Rs) : encW (v ++ w) = encW v ++ encW w := by simp [encW]

theorem cast_toNat {r : Int} (h : RuneOk r) : ((r.toNat : Nat) : Int) = r := by have := h.1; omega

theorem runes_encW : ∀ (w : Rs), (∀ r ∈ w, RuneOk r) → runesD (encW w) = w
  | [], _ => rfl
  | r :: w, h => by
    have hr := h r (List.mem_cons_self ..)
    have hl := encode_len r
    have hne : encW (r :: w) ≠ [] := by
      rw [encW_cons]
      intro e
      have := congrArg List.length e
      rw [List.length_append, List.length_nil] at this
      omega
    rw [runesD_step _ hne, encW_cons, decode_encode hr]
    simp only
    rw [List.drop_left, runes_encW w fun q hq => h q (List.mem_cons_of_mem _ hq), cast_toNat hr]

theorem valid_encW : ∀ (w : Rs), (∀ r ∈ w, RuneOk r) → validD (encW w) = true
  | [], _ => rfl
  | r :: w, h => by
    have hr := h r (List.mem_cons_self ..)
    have hl := encode_len r
    have hne : encW (r :: w) ≠ [] := by
      rw [encW_cons]
      intro e
      have := congrArg List.length e
      rw [List.length_append, List.length_nil] at this
      omega
    rw [validD_step _ hne, encW_cons, decode_encode hr]
    simp only
    rw [List.drop_left, valid_encW w fun q hq => h q (List.mem_cons_of_mem _ hq), if_neg]
    rintro ⟨h1, h2⟩
    have e3 : r = 65533 := by have := hr.1; omega
    subst e3
    revert h2
    decide

theorem encW_runes {l : List UInt8} (h : validD l = true) : encW (runesD l) = l := flat_runes _ l (Nat.le_refl _) h

theorem runes_ok : ∀ (n : Nat) (l : List UInt8), l.length ≤ n → validD l = true → ∀ r ∈ runesD l, RuneOk r
  | 0, l, h, _, r, hr => by
    have : l = [] := List.length_eq_zero_iff.1 (by omega)
    subst this; cases hr
  | n + 1, l, h, hv, r, hr => by
    by_cases hne : l = []
    · subst hne; cases hr
    · rw [validD_step l hne] at hv
      by_cases hbad : (decodeL l).1 = 65533 ∧ (decodeL l).2 = 1
      · rw [if_pos hbad] at hv; cases hv
      · rw [if_neg hbad] at hv
        have hw := decodeL_width l
        have hp : 0 < l.length := List.length_pos_iff.2 hne
        rw [runesD_step l hne] at hr
        rcases List.mem_cons.1 hr with rfl | hr
        · exact decode_ok l hbad
        · exact runes_ok n _ (by rw [List.length_drop]; omega) hv r hr

theorem encW_inj {v w : Rs} (hv : ∀ r ∈ v, RuneOk r) (hw : ∀ r ∈ w, RuneOk r) (h : encW v = encW w) : v = w := by
  rw [← runes_encW v hv, ← runes_encW w hw, h]

/-! The text. -/

def arrowT (q : Int × Nat) : List UInt8 := 32 :: (encodeRune q.1 ++ itoa q.2)
def lineT (st : St) : List UInt8 := (if st.1 then 33 else 46) :: (st.2.flatMap arrowT ++ [10])
def textT (g : List St) : List UInt8 := [103, 108, 111, 115, 115, 32] ++ itoa g.length ++ [10] ++ g.flatMap lineT

/-! What reads it. -/

def digitsL : List UInt8 := [48, 49, 50, 51, 52, 53, 54, 55, 56, 57]

def takeP (piece l : List UInt8) : Option (List UInt8) := if hasPrefix l piece then some (trimPrefix l piece) else none

def numP (l : List UInt8) : Option (Nat × List UInt8) :=
  match atoiAll (l.take (l.length - (trimLeftS l digitsL).length)) with
  | .ok v => some (v.toNat, trimLeftS l digitsL)
  | _ => none

def runeP (l : List UInt8) : Option (Int × List UInt8) :=
  if l = [] then none
  else if (decodeL l).1 = 65533 ∧ (decodeL l).2 = 1 then none else some (((decodeL l).1 : Int), l.drop (decodeL l).2)

def markP (l : List UInt8) : Option (Bool × List UInt8) :=
  if hasPrefix l [33] then some (true, trimPrefix l [33]) else (takeP [46] l).map fun m => (false, m)

/-- What is left, and what was read. -/
structure Rd where
  left : List UInt8
  count : Nat
  rune : Int
  states : List St

def nextP (l : List UInt8) : Nat := if hasPrefix l [32] then 3 else 5

/-- The last state gets an arrow. -/
def addArrow (g : List St) (q : Int × Nat) : List St := match g.getLast? with
  | none => g
  | some st => g.dropLast ++ [(st.1, st.2 ++ [q])]

def readP (part : Nat) (q : Rd) : Option (Nat × Rd) :=
  match part with
  | 0 => (takeP [103, 108, 111, 115, 115] q.left).map fun l => (1, { q with left := l })
  | 1 => (takeP [32] q.left).bind fun l => (numP l).map fun n => (5, { q with left := n.2, count := n.1 })
  | 2 => (markP q.left).map fun m => (nextP m.2, { q with left := m.2, states := q.states ++ [(m.1, [])] })
  | 3 => (takeP [32] q.left).bind fun l => (runeP l).map fun n => (4, { q with left := n.2, rune := n.1 })
  | 4 => (numP q.left).map fun n => (nextP n.2, { q with left := n.2, states := addArrow q.states (q.rune, n.1) })
  | _ => (takeP [10] q.left).map fun l => (if q.states.length = q.count then 6 else 2, { q with left := l })

theorem take_lt {piece l m : List UInt8} (hp : piece ≠ []) (h : takeP piece l = some m) : m.length < l.length := by
  unfold takeP at h
  split at h
  · rename_i hh
    injection h with h
    rw [← h]
    unfold trimPrefix
    rw [if_pos hh, List.length_drop]
    have := List.length_pos_iff.2 hp
    have hle : piece.length ≤ l.length := by
      unfold hasPrefix at hh
      exact (List.isPrefixOf_iff_prefix.1 hh).length_le
    omega
  · cases h

theorem trimLeft_le (l cs : List UInt8) : (trimLeftS l cs).length ≤ l.length := (List.dropWhile_suffix _).length_le

theorem num_lt {l m : List UInt8} {n : Nat} (h : numP l = some (n, m)) : m.length < l.length := by
  unfold numP at h
  have hle := trimLeft_le l digitsL
  cases hd : (l.take (l.length - (trimLeftS l digitsL).length)) with
  | nil => rw [hd] at h; cases h
  | cons c r =>
    have := congrArg List.length hd
    rw [List.length_take] at this
    split at h
    · injection h with h
      injection h with _ h
      rw [← h]
      simp at this
      omega
    · cases h

theorem rune_lt {l m : List UInt8} {r : Int} (h : runeP l = some (r, m)) : m.length < l.length := by
  unfold runeP at h
  split at h
  · cases h
  · rename_i hne
    split at h
    · cases h
    · injection h with h
      injection h with _ h
      rw [← h, List.length_drop]
      have := decodeL_width l
      have := List.length_pos_iff.2 hne
      omega

theorem mark_lt {l m : List UInt8} {b : Bool} (h : markP l = some (b, m)) : m.length < l.length := by
  unfold markP at h
  split at h
  · rename_i hh
    injection h with h
    injection h with _ h
    refine take_lt (piece := [33]) (by simp) ?_
    rw [takeP, if_pos hh, h]
  · cases ht : takeP [46] l with
    | none => rw [ht] at h; cases h
    | some k =>
      rw [ht] at h
      simp at h
      rw [← h.2]
      exact take_lt (by simp) ht

theorem read_lt {part part' : Nat} {q q' : Rd} (h : readP part q = some (part', q')) : q'.left.length < q.left.length := by
  unfold readP at h
  split at h
  · cases ht : takeP [103, 108, 111, 115, 115] q.left with
    | none => rw [ht] at h; cases h
    | some l => rw [ht] at h; simp at h; rw [← h.2]; exact take_lt (by simp) ht
  · cases ht : takeP [32] q.left with
    | none => rw [ht] at h; cases h
    | some l =>
      rw [ht] at h
      have h1 := take_lt (by simp) ht
      cases hn : numP l with
      | none => simp [hn] at h
      | some n => simp [hn] at h; rw [← h.2]; have := num_lt (n := n.1) (m := n.2) hn; simp; omega
  · cases ht : markP q.left with
    | none => rw [ht] at h; cases h
    | some m => rw [ht] at h; simp at h; rw [← h.2]; exact mark_lt (b := m.1) (m := m.2) ht
  · cases ht : takeP [32] q.left with
    | none => rw [ht] at h; cases h
    | some l =>
      rw [ht] at h
      have h1 := take_lt (by simp) ht
      cases hn : runeP l with
      | none => simp [hn] at h
      | some n => simp [hn] at h; rw [← h.2]; have := rune_lt (r := n.1) (m := n.2) hn; simp; omega
  · cases hn : numP q.left with
    | none => simp [hn] at h
    | some n => simp [hn] at h; rw [← h.2]; exact num_lt (n := n.1) (m := n.2) hn
  · cases ht : takeP [10] q.left with
    | none => rw [ht] at h; cases h
    | some l => rw [ht] at h; simp at h; rw [← h.2]; exact take_lt (by simp) ht

/-- All that is read from a part on. -/
def readAll (part : Nat) (q : Rd) : Option Rd :=
  if part = 6 then some q else
  match _h : readP part q with
  | none => none
  | some n => readAll n.1 n.2
termination_by q.left.length
decreasing_by exact read_lt (part' := n.1) (q' := n.2) (by assumption)

theorem readAll_done (q : Rd) : readAll 6 q = some q := by rw [readAll, if_pos rfl]
theorem readAll_step {part : Nat} {q : Rd} (hp : part ≠ 6) {n : Nat × Rd} (h : readP part q = some n) : readAll part q = readAll n.1 n.2 := by
  rw [readAll, if_neg hp]
  split
  · rename_i h'; rw [h] at h'; cases h'
  · rename_i m h'; rw [h] at h'; cases h'; rfl
theorem readAll_fail {part : Nat} {q : Rd} (hp : part ≠ 6) (h : readP part q = none) : readAll part q = none := by
  rw [readAll, if_neg hp]
  split
  · rfl
  · rename_i m h'; rw [h] at h'; cases h'

end Go.Proofs.YtdfnngehhiociaaGreatDoor

namespace Go.Proofs.YtdfnngehhiociaaGreatDoor
open Go.Lib

theorem byte_of {k : Nat} (h : k < 256) : (UInt8.ofNat k).toNat = k := by
  simp
  omega

theorem parse_append (c : UInt8) : ∀ (l : List UInt8) (acc a : Nat), parseUint10 acc l = .ok a → parseUint10 acc (l ++ [c]) = parseUint10 a [c]
  | [], acc, a, h => by
    simp only [parseUint10] at h
    injection h with h
    subst h; rfl
  | d :: l, acc, a, h => by
    rw [List.cons_append]
    simp only [parseUint10] at h
    rw [parseUint10]
    split at h
    · rename_i h1
      rw [if_pos h1]
      split at h
      · cases h
      · rename_i h2
        rw [if_neg h2]
        split at h
        · cases h
        · rename_i h3
          rw [if_neg h3]
          exact parse_append c l _ a h
    · cases h

theorem parse_dec (n : Nat) (h : n < 1000000000000000) : parseUint10 0 (decDigits n) = .ok n := by
  induction n using Nat.strongRecOn with
  | _ n ih =>
    by_cases hs : n < 10
    · rw [decDigits_one hs]
      have b := byte_of (show 48 + n < 256 by omega)
      simp only [parseUint10, b]
      rw [if_pos (by omega), if_neg (by omega), if_neg (by omega)]
      congr 1
      omega
    · have e : decDigits n = decDigits (n / 10) ++ [UInt8.ofNat (48 + n % 10)] := by rw [decDigits, dif_neg hs]
      rw [e, parse_append _ _ _ _ (ih (n / 10) (by omega) (by omega))]
      have b := byte_of (show 48 + n % 10 < 256 by omega)
      simp only [parseUint10, b]
      rw [if_pos (by omega), if_neg (by omega), if_neg (by omega)]
      congr 1
      omega

theorem dec_digit (n : Nat) : ∀ b ∈ decDigits n, 48 ≤ b.toNat ∧ b.toNat ≤ 57 := by
  induction n using Nat.strongRecOn with
  | _ n ih =>
    intro b hb
    by_cases hs : n < 10
    · rw [decDigits_one hs] at hb
      simp only [List.mem_singleton] at hb
      subst hb
      rw [byte_of (by omega)]
      omega
    · have e : decDigits n = decDigits (n / 10) ++ [UInt8.ofNat (48 + n % 10)] := by rw [decDigits, dif_neg hs]
      rw [e] at hb
      rcases List.mem_append.1 hb with hb | hb
      · exact ih (n / 10) (by omega) b hb
      · simp only [List.mem_singleton] at hb
        subst hb
        rw [byte_of (by omega)]
        omega

theorem dec_ne (n : Nat) : decDigits n ≠ [] := by
  intro e
  have h1 := decDigits_length n
  have h2 := nDigits_pos n
  rw [e] at h1
  simp at h1
  omega

theorem atoi_dec (n : Nat) (h : n < 1000000000000000) : atoiAll (decDigits n) = .ok (n : Int) := by
  cases hd : decDigits n with
  | nil => exact absurd hd (dec_ne n)
  | cons c r =>
    have hc := dec_digit n c (by rw [hd]; exact List.mem_cons_self ..)
    rw [atoiAll_plain c r (by omega) (by omega)]
    have hp := parse_dec n h
    rw [hd] at hp
    unfold parseMag
    rw [if_neg (by simp), hp]
    simp only [signless]
    rw [if_neg (by omega)]

theorem digit_in {b : UInt8} (h : 48 ≤ b.toNat ∧ b.toNat ≤ 57) : digitsL.contains b = true := by
  have hb : b = UInt8.ofNat b.toNat := by simp
  have hk : b.toNat = 48 ∨ b.toNat = 49 ∨ b.toNat = 50 ∨ b.toNat = 51 ∨ b.toNat = 52 ∨ b.toNat = 53 ∨ b.toNat = 54 ∨ b.toNat = 55 ∨ b.toNat = 56 ∨ b.toNat = 57 := by omega
  rw [hb]
  rcases hk with e | e | e | e | e | e | e | e | e | e <;> rw [e] <;> decide

theorem trim_digits : ∀ (l t : List UInt8), (∀ b ∈ l, 48 ≤ b.toNat ∧ b.toNat ≤ 57) → trimLeftS (l ++ t) digitsL = trimLeftS t digitsL
  | [], t, _ => rfl
  | b :: l, t, h => by
    have := trim_digits l t fun c hc => h c (List.mem_cons_of_mem _ hc)
    unfold trimLeftS at this ⊢
    rw [List.cons_append, List.dropWhile_cons, if_pos (digit_in (h b (List.mem_cons_self ..))), this]

theorem itoa_dec (n : Nat) : itoa (n : Int) = decDigits n := itoa_nonneg n

theorem num_itoa (n : Nat) (h : n < 1000000000000000) (b : UInt8) (t : List UInt8) (hb : digitsL.contains b = false) : numP (itoa (n : Int) ++ b :: t) = some (n, b :: t) := by
  have ht : trimLeftS (itoa (n : Int) ++ b :: t) digitsL = b :: t := by
    rw [itoa_dec, trim_digits _ _ (dec_digit n)]
    unfold trimLeftS
    rw [List.dropWhile_cons, if_neg (by rw [hb]; simp)]
  have hk : (itoa (n : Int) ++ b :: t).take ((itoa (n : Int) ++ b :: t).length - (b :: t).length) = decDigits n := by
    rw [List.length_append, Nat.add_sub_cancel, List.take_left, itoa_dec]
  unfold numP
  rw [ht, hk, atoi_dec n h]
  rfl

theorem rune_encode {r : Int} (h : RuneOk r) (t : List UInt8) : runeP (encodeRune r ++ t) = some (r, t) := by
  have hl := encode_len r
  have hne : encodeRune r ++ t ≠ [] := by
    intro e
    have := congrArg List.length e
    rw [List.length_append, List.length_nil] at this
    omega
  unfold runeP
  rw [if_neg hne, decode_encode h]
  simp only
  rw [List.drop_left, cast_toNat h, if_neg]
  rintro ⟨h1, h2⟩
  have e3 : r = 65533 := by have := h.1; omega
  subst e3
  revert h2
  decide

theorem take_self (p t : List UInt8) : takeP p (p ++ t) = some t := by
  have hp : hasPrefix (p ++ t) p = true := by
    unfold hasPrefix
    exact List.isPrefixOf_iff_prefix.2 (List.prefix_append p t)
  unfold takeP trimPrefix
  rw [if_pos hp, if_pos hp, List.drop_left]
theorem take_one (b : UInt8) (t : List UInt8) : takeP [b] (b :: t) = some t := take_self [b] t

theorem pre_one (b c : UInt8) (t : List UInt8) : hasPrefix (b :: t) [c] = (b == c) := by
  unfold hasPrefix
  simp [List.isPrefixOf]
  exact Bool.beq_comm ..

theorem mark_line (e : Bool) (t : List UInt8) : markP ((if e then 33 else 46) :: t) = some (e, t) := by
  unfold markP
  cases e with
  | true => simp [pre_one, trimPrefix]
  | false =>
    simp only [Bool.false_eq_true, if_false, pre_one]
    rw [if_neg (by decide), take_one]
    rfl

theorem add_last (g : List St) (e : Bool) (as : List (Int × Nat)) (q : Int × Nat) : addArrow (g ++ [(e, as)]) q = g ++ [(e, as ++ [q])] := by
  simp [addArrow]

theorem after_arrows (as : List (Int × Nat)) (rest : List UInt8) : ∃ b t, as.flatMap arrowT ++ 10 :: rest = b :: t ∧ digitsL.contains b = false ∧ nextP (as.flatMap arrowT ++ 10 :: rest) = if as = [] then 5 else 3 := by
  cases as with
  | nil => exact ⟨10, rest, rfl, by decide, rfl⟩
  | cons q as =>
    refine ⟨32, _, rfl, by decide, ?_⟩
    rw [if_neg (by simp), List.flatMap_cons]
    show nextP (32 :: _) = 3
    unfold nextP
    rw [pre_one, if_pos (by decide)]

/-- An arrow that can be written and read. -/
def ArrowOk (q : Int × Nat) : Prop := RuneOk q.1 ∧ q.2 < 1000000000000000

theorem read_arrows (g : List St) (e : Bool) (count : Nat) (rest : List UInt8) : ∀ (as2 as1 : List (Int × Nat)) (r : Int), (∀ q ∈ as2, ArrowOk q) → ∃ r',
    readAll (nextP (as2.flatMap arrowT ++ 10 :: rest)) { left := as2.flatMap arrowT ++ 10 :: rest, count := count, rune := r, states := g ++ [(e, as1)] } =
      readAll 5 { left := 10 :: rest, count := count, rune := r', states := g ++ [(e, as1 ++ as2)] }
  | [], as1, r, _ => ⟨r, by
    obtain ⟨b, t, _, _, hn⟩ := after_arrows [] rest
    rw [hn]
    simp⟩
  | q :: as2, as1, r, h => by
    have hq := h q (List.mem_cons_self ..)
    obtain ⟨r', hr'⟩ := read_arrows g e count rest as2 (as1 ++ [q]) q.1 (fun p hp => h p (List.mem_cons_of_mem _ hp))
    refine ⟨r', ?_⟩
    obtain ⟨b, t, hbt, hb, hn⟩ := after_arrows as2 rest
    obtain ⟨_, _, _, _, hn0⟩ := after_arrows (q :: as2) rest
    rw [hn0, if_neg (by simp)]
    have hl : (q :: as2).flatMap arrowT ++ 10 :: rest = 32 :: (encodeRune q.1 ++ (itoa (q.2 : Int) ++ (as2.flatMap arrowT ++ 10 :: rest))) := by
      simp [arrowT]
    rw [hl]
    have s3 : readP 3 { left := 32 :: (encodeRune q.1 ++ (itoa (q.2 : Int) ++ (as2.flatMap arrowT ++ 10 :: rest))), count := count, rune := r, states := g ++ [(e, as1)] } =
        some (4, { left := itoa (q.2 : Int) ++ (as2.flatMap arrowT ++ 10 :: rest), count := count, rune := q.1, states := g ++ [(e, as1)] }) := by
      simp only [readP, take_one, Option.bind_some, rune_encode hq.1, Option.map_some]
    rw [readAll_step (by decide) s3]
    have s4 : readP 4 { left := itoa (q.2 : Int) ++ (as2.flatMap arrowT ++ 10 :: rest), count := count, rune := q.1, states := g ++ [(e, as1)] } =
        some (nextP (as2.flatMap arrowT ++ 10 :: rest), { left := as2.flatMap arrowT ++ 10 :: rest, count := count, rune := q.1, states := g ++ [(e, as1 ++ [q])] }) := by
      have := num_itoa q.2 hq.2 b t hb
      rw [hbt]
      simp only [readP, this, Option.map_some, add_last]
    rw [readAll_step (by decide) s4]
    simp only
    rw [hr']
    simp

theorem read_lines (n : Nat) : ∀ (g2 g1 : List St) (r : Int), (∀ st ∈ g2, ∀ q ∈ st.2, ArrowOk q) → g2 ≠ [] → g1.length + g2.length = n → ∃ r',
    readAll 2 { left := g2.flatMap lineT, count := n, rune := r, states := g1 } = some { left := [], count := n, rune := r', states := g1 ++ g2 }
  | [], _, _, _, h, _ => absurd rfl h
  | st :: g2, g1, r, h, _, hlen => by
    have hl : (st :: g2).flatMap lineT = (if st.1 then 33 else 46) :: (st.2.flatMap arrowT ++ 10 :: g2.flatMap lineT) := by
      simp [lineT]
    rw [hl]
    have s2 : readP 2 { left := (if st.1 then 33 else 46) :: (st.2.flatMap arrowT ++ 10 :: g2.flatMap lineT), count := n, rune := r, states := g1 } =
        some (nextP (st.2.flatMap arrowT ++ 10 :: g2.flatMap lineT), { left := st.2.flatMap arrowT ++ 10 :: g2.flatMap lineT, count := n, rune := r, states := g1 ++ [(st.1, [])] }) := by
      simp only [readP, mark_line, Option.map_some]
    rw [readAll_step (by decide) s2]
    simp only
    obtain ⟨r1, h1⟩ := read_arrows g1 st.1 n (g2.flatMap lineT) st.2 [] r (h st (List.mem_cons_self ..))
    rw [h1, List.nil_append]
    have s5 : readP 5 { left := 10 :: g2.flatMap lineT, count := n, rune := r1, states := g1 ++ [(st.1, st.2)] } =
        some (if (g1 ++ [(st.1, st.2)]).length = n then 6 else 2, { left := g2.flatMap lineT, count := n, rune := r1, states := g1 ++ [(st.1, st.2)] }) := by
      simp only [readP, take_one, Option.map_some]
    rw [readAll_step (by decide) s5]
    simp only
    cases hg2 : g2 with
    | nil =>
      subst hg2
      rw [if_pos (by simpa using hlen), readAll_done]
      exact ⟨r1, rfl⟩
    | cons st2 g3 =>
      rw [if_neg (by rw [hg2] at hlen; simp at hlen ⊢; omega), ← hg2]
      obtain ⟨r2, h2⟩ := read_lines n g2 (g1 ++ [(st.1, st.2)]) r1 (fun s hs => h s (List.mem_cons_of_mem _ hs)) (by rw [hg2]; simp) (by simp at hlen ⊢; omega)
      refine ⟨r2, ?_⟩
      rw [h2]
      simp

/-- What is written is read. -/
theorem read_text (g : List St) (c0 : Nat) (r0 : Int) (h : ∀ st ∈ g, ∀ q ∈ st.2, ArrowOk q) (hne : g ≠ []) (hlen : g.length < 1000000000000000) : ∃ r,
    readAll 0 { left := textT g, count := c0, rune := r0, states := [] } = some { left := [], count := g.length, rune := r, states := g } := by
  have hl : textT g = [103, 108, 111, 115, 115] ++ (32 :: (itoa (g.length : Int) ++ 10 :: g.flatMap lineT)) := by simp [textT]
  rw [hl]
  have s0 : readP 0 { left := [103, 108, 111, 115, 115] ++ (32 :: (itoa (g.length : Int) ++ 10 :: g.flatMap lineT)), count := c0, rune := r0, states := [] } =
      some (1, { left := 32 :: (itoa (g.length : Int) ++ 10 :: g.flatMap lineT), count := c0, rune := r0, states := [] }) := by
    simp only [readP, take_self, Option.map_some]
  rw [readAll_step (by decide) s0]
  simp only
  have s1 : readP 1 { left := 32 :: (itoa (g.length : Int) ++ 10 :: g.flatMap lineT), count := c0, rune := r0, states := [] } =
      some (5, { left := 10 :: g.flatMap lineT, count := g.length, rune := r0, states := [] }) := by
    have := num_itoa g.length hlen 10 (g.flatMap lineT) (by decide)
    simp only [readP, take_one, Option.bind_some, this, Option.map_some]
  rw [readAll_step (by decide) s1]
  simp only
  have s5 : readP 5 { left := 10 :: g.flatMap lineT, count := g.length, rune := r0, states := [] } =
      some (2, { left := g.flatMap lineT, count := g.length, rune := r0, states := [] }) := by
    have hp := List.length_pos_iff.2 hne
    simp only [readP, take_one, Option.map_some]
    rw [if_neg (by simp; omega)]
  rw [readAll_step (by decide) s5]
  simp only
  obtain ⟨r, hr⟩ := read_lines g.length g [] r0 h hne (by simp)
  exact ⟨r, by rw [hr]; rfl⟩

end Go.Proofs.YtdfnngehhiociaaGreatDoor

namespace Go.Proofs.YtdfnngehhiociaaGreatDoor
open Go.Lib

/-- No word leads on from there. -/
def nowhere (st : St) : Bool := !st.1 && st.2.isEmpty

def tryArrows (go : St → Rs → List (List UInt8) → Option (List (List UInt8))) (g : List St) (word : Rs) : List (Int × Nat) → List (List UInt8) → Option (List (List UInt8))
  | [], S => some S
  | q :: as, S => match g[q.2]? with
    | none => none
    | some next => if nowhere next = true ∨ 10 < word.length + 1 then none else (go next (word ++ [q.1]) S).bind (tryArrows go g word as)

/-- The words of a state are tried, behind what leads there. -/
def tryP (E : List (List UInt8) → List UInt8 → Int) (g : List St) : Nat → St → Rs → List (List UInt8) → Option (List (List UInt8))
  | 0, _, _, _ => none
  | k + 1, st, word, S =>
    if st.1 then (if E S (encW word) = 0 then tryArrows (tryP E g k) g word st.2 (S ++ [encW word]) else none)
    else tryArrows (tryP E g k) g word st.2 S

theorem count_behind (V : List Rs) (a : Int) (t : Rs) : (behind V a).count t = V.count (a :: t) := by
  induction V with
  | nil => rfl
  | cons v V ih =>
    cases v with
    | nil => rw [behind_cons_nil, ih, List.count_cons]; simp
    | cons b u =>
      by_cases hb : b = a
      · subst hb
        rw [behind_cons_same, List.count_cons, List.count_cons, ih]
        simp
      · rw [behind_cons_other V u hb, ih, List.count_cons]
        simp [hb]

theorem sum_single (a : Int) (c : Nat) : ∀ (R : List Int), R.Nodup → (R.map fun r => if r = a then c else 0).sum = if a ∈ R then c else 0
  | [], _ => by simp
  | r :: R, h => by
    have h := List.nodup_cons.1 h
    rw [List.map_cons, List.sum_cons, sum_single a c R h.2]
    by_cases hr : r = a
    · subst hr; simp [h.1]
    · have hra : ¬ a = r := fun e => hr e.symm
      simp [hr, hra]

theorem count_tails (V : List Rs) (a r : Int) (t : Rs) : ((behind V r).map (r :: ·)).count (a :: t) = if r = a then V.count (a :: t) else 0 := by
  by_cases h : r = a
  · subst h
    have key : ∀ B : List Rs, (B.map (r :: ·)).count (r :: t) = B.count t := by
      intro B
      induction B with
      | nil => rfl
      | cons b B ih => rw [List.map_cons, List.count_cons, List.count_cons, ih]; simp
    rw [if_pos rfl, key, count_behind]
  · rw [if_neg h]
    apply List.count_eq_zero.2
    intro hm
    obtain ⟨u, _, hu⟩ := List.mem_map.1 hm
    injection hu with h1 h2
    exact h h1

/-- The words of a list by their first runes. -/
theorem split_perm {V : List Rs} (hV : V.Nodup) : V.Perm ((if [] ∈ V then [[]] else []) ++ (firsts V).flatMap fun r => (behind V r).map (r :: ·)) := by
  rw [List.perm_iff_count]
  intro x
  rw [List.count_append, List.count_flatMap]
  cases x with
  | nil =>
    have h0 : ((firsts V).map (List.count [] ∘ fun r => (behind V r).map (r :: ·))).sum = 0 := by
      generalize firsts V = R
      induction R with
      | nil => rfl
      | cons r R ih =>
        rw [List.map_cons, List.sum_cons, ih]
        show List.count [] ((behind V r).map (r :: ·)) + 0 = 0
        rw [Nat.add_zero]
        apply List.count_eq_zero.2
        intro hm
        obtain ⟨u, _, hu⟩ := List.mem_map.1 hm
        cases hu
    rw [h0]
    by_cases hm : [] ∈ V
    · have h1 := List.nodup_iff_count.1 hV []
      have h2 := List.count_pos_iff.2 hm
      rw [if_pos hm, show List.count [] V = 1 by omega]; rfl
    · rw [if_neg hm, List.count_eq_zero.2 hm]; rfl
  | cons a t =>
    have h0 : List.count (a :: t) (if [] ∈ V then [[]] else []) = 0 := by
      by_cases hm : ([] : Rs) ∈ V
      · rw [if_pos hm]; simp
      · rw [if_neg hm]; simp
    have h1 : (List.count (a :: t) ∘ fun r => (behind V r).map (r :: ·)) = fun r => if r = a then V.count (a :: t) else 0 := by
      funext r
      exact count_tails V a r t
    rw [h0, h1, sum_single a _ _ (nodup_firsts V), Nat.zero_add]
    by_cases hm : a ∈ firsts V
    · rw [if_pos hm]
    · rw [if_neg hm]
      apply List.count_eq_zero.2
      intro hx
      exact hm (mem_firsts.2 ⟨t, hx⟩)

theorem nodup_behind {V : List Rs} (h : V.Nodup) (r : Int) : (behind V r).Nodup := by
  rw [List.nodup_iff_count]
  intro t
  rw [count_behind]
  exact List.nodup_iff_count.1 h _

section
variable {W0 : List Rs} {g : List St} {F : List (List Rs)} (hI : GInv W0 g F) (hd : g.length = F.length)
  {E : List (List UInt8) → List UInt8 → Int} {L : List (List UInt8)} (hL : L.Nodup) (hE : ∀ S x, x ∈ L → x ∉ S → S.length < L.length → E S x = 0)

/-- What the arrows lead to. -/
def wordsOf (V : List Rs) (word : Rs) (as : List (Int × Nat)) : List (List UInt8) := as.flatMap fun q => (behind V q.1).map fun t => encW (word ++ [q.1] ++ t)

theorem not_nowhere {V : List Rs} {st : St} (h1 : st.1 = decide ([] ∈ V)) (h2 : st.2.map Prod.fst = firsts V) (hne : V ≠ []) : nowhere st = false := by
  unfold nowhere
  cases V with
  | nil => exact absurd rfl hne
  | cons v V =>
    cases v with
    | nil => rw [h1]; simp
    | cons a t =>
      have : a ∈ firsts ((a :: t) :: V) := mem_firsts.2 ⟨t, List.mem_cons_self ..⟩
      cases hs : st.2 with
      | nil => rw [hs] at h2; rw [← h2] at this; cases this
      | cons q as => simp

include hI hd in
theorem try_arrows {k : Nat} (ih : ∀ (V : List Rs) (n : Nat) (st : St) (word : Rs) (S T : List (List UInt8)), F[n]? = some V → g[n]? = some st → V.Nodup → longest V < k → word.length + longest V ≤ 10 →
      (S ++ (V.map (fun v => encW (word ++ v)) ++ T)).Perm L → ∃ S', tryP E g k st word S = some S' ∧ S'.Perm (S ++ V.map (fun v => encW (word ++ v))))
    (V : List Rs) (word : Rs) (hV : V.Nodup) (hk : longest V ≤ k) (hw : word.length + longest V ≤ 10) : ∀ (as : List (Int × Nat)) (S T : List (List UInt8)), (∀ q ∈ as, F[q.2]? = some (behind V q.1) ∧ q.1 ∈ firsts V) →
      (S ++ (wordsOf V word as ++ T)).Perm L → ∃ S', tryArrows (tryP E g k) g word as S = some S' ∧ S'.Perm (S ++ wordsOf V word as)
  | [], S, _, _, _ => ⟨S, rfl, by simp [wordsOf]⟩
  | q :: as, S, T, hq, hp => by
    obtain ⟨hF, hf⟩ := hq q (List.mem_cons_self ..)
    obtain ⟨t0, ht0⟩ := mem_firsts.1 hf
    have hlong := longest_behind ht0
    have hl := (List.getElem?_eq_some_iff.1 hF).1
    have hg : g[q.2]? = some g[q.2] := List.getElem?_eq_getElem (by omega)
    generalize g[q.2] = st at hg
    obtain ⟨V', h1, h2, h3, _⟩ := hI.here _ _ hg
    rw [hF] at h1
    cases h1
    have hn : nowhere st = false := not_nowhere h2 h3 (fun e => by have := mem_behind.2 ht0; rw [e] at this; cases this)
    have ew : wordsOf V word (q :: as) = (behind V q.1).map (fun t => encW (word ++ [q.1] ++ t)) ++ wordsOf V word as := by simp [wordsOf]
    rw [ew] at hp ⊢
    have hp1 : (S ++ ((behind V q.1).map (fun t => encW (word ++ [q.1] ++ t)) ++ (wordsOf V word as ++ T))).Perm L := by
      simpa [List.append_assoc] using hp
    obtain ⟨S1, e1, p1⟩ := ih (behind V q.1) q.2 st (word ++ [q.1]) S (wordsOf V word as ++ T) hF hg (nodup_behind hV _) (by omega) (by simp; omega) hp1
    have hp2 : (S1 ++ (wordsOf V word as ++ T)).Perm L := by
      refine (p1.append_right _).trans ?_
      simpa [List.append_assoc] using hp1
    obtain ⟨S2, e2, p2⟩ := try_arrows ih V word hV hk hw as S1 T (fun p hp => hq p (List.mem_cons_of_mem _ hp)) hp2
    refine ⟨S2, ?_, ?_⟩
    · rw [tryArrows, hg]
      simp only
      rw [if_neg (by rw [hn]; simp; omega), e1]
      exact e2
    · refine p2.trans ?_
      have := p1.append_right (wordsOf V word as)
      simpa [List.append_assoc] using this

include hI hd hL hE in
theorem try_graph : ∀ (k : Nat) (V : List Rs) (n : Nat) (st : St) (word : Rs) (S T : List (List UInt8)), F[n]? = some V → g[n]? = some st → V.Nodup → longest V < k → word.length + longest V ≤ 10 →
      (S ++ (V.map (fun v => encW (word ++ v)) ++ T)).Perm L → ∃ S', tryP E g k st word S = some S' ∧ S'.Perm (S ++ V.map (fun v => encW (word ++ v)))
  | 0, _, _, _, _, _, _, _, _, _, hk, _, _ => absurd hk (by omega)
  | k + 1, V, n, st, word, S, T, hF, hg, hV, hk, hw, hp => by
    obtain ⟨V', h1, h2, h3, h4⟩ := hI.here _ _ hg
    rw [hF] at h1
    cases h1
    have hq : ∀ q ∈ st.2, F[q.2]? = some (behind V q.1) ∧ q.1 ∈ firsts V := fun q hq => ⟨h4 q hq, by rw [← h3]; exact List.mem_map_of_mem hq⟩
    have hsp := (split_perm hV).map (fun v => encW (word ++ v))
    have ew : ((firsts V).flatMap fun r => (behind V r).map (r :: ·)).map (fun v => encW (word ++ v)) = wordsOf V word st.2 := by
      rw [← h3, List.flatMap_map, List.map_flatMap]
      unfold wordsOf
      congr 1
      funext q
      rw [List.map_map]
      congr 1
      funext t
      simp [Function.comp]
    rw [List.map_append, ew] at hsp
    have iha := try_arrows hI hd (try_graph k) V word hV (by omega) hw st.2
    rw [tryP]
    by_cases hm : [] ∈ V
    · rw [if_pos hm] at hsp
      have hsp : (V.map (fun v => encW (word ++ v))).Perm (encW word :: wordsOf V word st.2) := by simpa using hsp
      rw [if_pos (by rw [h2]; simpa using hm)]
      have hp1 : (S ++ (encW word :: wordsOf V word st.2 ++ T)).Perm L := ((hsp.append_right T).append_left S).symm.trans hp
      have hin : encW word ∈ L := hp1.mem_iff.1 (by simp)
      have hnd : (S ++ (encW word :: wordsOf V word st.2 ++ T)).Nodup := hp1.nodup_iff.2 hL
      have hnot : encW word ∉ S := fun hs => (List.nodup_append.1 hnd).2.2 _ hs _ (by simp) rfl
      have hlt : S.length < L.length := by
        have := hp1.length_eq
        simp at this
        omega
      rw [if_pos (hE S _ hin hnot hlt)]
      obtain ⟨S', e, p⟩ := iha (S ++ [encW word]) T hq (by simpa [List.append_assoc] using hp1)
      refine ⟨S', e, p.trans ?_⟩
      have := (hsp.append_left S).symm
      simpa [List.append_assoc] using this
    · rw [if_neg hm] at hsp
      have hsp : (V.map (fun v => encW (word ++ v))).Perm (wordsOf V word st.2) := by simpa using hsp
      rw [if_neg (by rw [h2]; simpa using hm)]
      have hp1 : (S ++ (wordsOf V word st.2 ++ T)).Perm L := ((hsp.append_right T).append_left S).symm.trans hp
      obtain ⟨S', e, p⟩ := iha S T hq hp1
      exact ⟨S', e, p.trans (hsp.append_left S).symm⟩

end

/-- The words of a graph, tried from the first state on. -/
def wordsP (E : List (List UInt8) → List UInt8 → Int) (g : List St) : Option (List (List UInt8)) :=
  match g[0]? with
  | none => none
  | some st => tryP E g 11 st [] []

theorem words_graph {W0 : List Rs} (hW : W0.Nodup) (h10 : ∀ w ∈ W0, w.length ≤ 10) (hok : ∀ w ∈ W0, ∀ r ∈ w, RuneOk r) {E : List (List UInt8) → List UInt8 → Int}
    (hE : ∀ S x, x ∈ W0.map encW → x ∉ S → S.length < W0.length → E S x = 0) : ∃ S, wordsP E (graphR W0) = some S ∧ S.Perm (W0.map encW) := by
  have hI := graph_inv W0
  have hd := graph_len W0
  have hp := graph_pos W0
  have hg : (graphR W0)[0]? = some (graphR W0)[0] := List.getElem?_eq_getElem (by omega)
  generalize (graphR W0)[0] = st at hg
  have hl := longest_le h10
  have hL : (W0.map encW).Nodup := by
    have key : ∀ W : List Rs, W.Nodup → (∀ w ∈ W, ∀ r ∈ w, RuneOk r) → (W.map encW).Nodup := by
      intro W
      induction W with
      | nil => intro _ _; exact List.nodup_nil
      | cons w W ih =>
        intro hn hk
        have hn := List.nodup_cons.1 hn
        refine List.nodup_cons.2 ⟨fun hm => ?_, ih hn.2 fun v hv => hk v (List.mem_cons_of_mem _ hv)⟩
        obtain ⟨v, hv, e⟩ := List.mem_map.1 hm
        have := encW_inj (hk v (List.mem_cons_of_mem _ hv)) (hk w (List.mem_cons_self ..)) e
        subst this
        exact hn.1 hv
    exact key W0 hW hok
  obtain ⟨S, e, p⟩ := try_graph hI hd (E := E) hL (by simpa using hE) 11 W0 0 st [] [] [] hI.zero hg hW (by omega) (by simpa using hl) (by simp)
  refine ⟨S, ?_, by simpa using p⟩
  unfold wordsP
  rw [hg]
  exact e

/-- What is written has few bytes. -/
theorem text_len {W0 : List Rs} (hw : weight W0 ≤ 400) : (textT (graphR W0)).length ≤ 20000 := by
  have hI := graph_inv W0
  have hd := graph_len W0
  have hst := hI.states
  have har := hI.arrows
  have hsf : 0 ≤ sumFrom weight (listsR W0) (graphR W0).length := Nat.zero_le _
  have hlen : (graphR W0).length ≤ 401 := by omega
  have hd3 : ∀ n : Nat, n < 1000 → (itoa (n : Int)).length ≤ 3 := by
    intro n hn
    rw [itoa_dec, decDigits_length]
    by_cases h1 : n < 10
    · rw [nDigits_small h1]; omega
    · rw [nDigits_big h1]
      by_cases h2 : n / 10 < 10
      · rw [nDigits_small h2]; omega
      · rw [nDigits_big h2, nDigits_small (by omega)]
        omega
  have harr : ∀ as : List (Int × Nat), (∀ q ∈ as, q.2 < 1000) → (as.flatMap arrowT).length ≤ 8 * as.length := by
    intro as
    induction as with
    | nil => intro _; simp
    | cons q as ih =>
      intro h
      have h1 := ih fun p hp => h p (List.mem_cons_of_mem _ hp)
      have h2 := hd3 q.2 (h q (List.mem_cons_self ..))
      have h3 := encode_len q.1
      rw [List.flatMap_cons, List.length_append, List.length_cons]
      unfold arrowT
      rw [List.length_cons, List.length_append]
      unfold arrowT at h1
      omega
  have hln : ∀ g : List St, (∀ st ∈ g, ∀ q ∈ st.2, q.2 < 1000) → (g.flatMap lineT).length ≤ 2 * g.length + 8 * (g.map fun st => st.2.length).sum := by
    intro g
    induction g with
    | nil => intro _; simp
    | cons st g ih =>
      intro h
      have h1 := ih fun p hp => h p (List.mem_cons_of_mem _ hp)
      have h2 := harr st.2 (h st (List.mem_cons_self ..))
      rw [List.flatMap_cons, List.length_append, List.map_cons, List.sum_cons, List.length_cons]
      have h3 : (lineT st).length = (st.2.flatMap arrowT).length + 2 := by simp [lineT]
      omega
  have hto : ∀ st ∈ graphR W0, ∀ q ∈ st.2, q.2 < 1000 := by
    intro st hst q hq
    obtain ⟨i, hi⟩ := List.getElem?_of_mem hst
    obtain ⟨V, _, _, _, h4⟩ := hI.here i st hi
    have := (List.getElem?_eq_some_iff.1 (h4 q hq)).1
    omega
  have h5 := hln _ hto
  have h6 := hd3 (graphR W0).length (by omega)
  unfold textT
  simp only [List.length_append, List.length_cons, List.length_nil]
  omega

theorem arrows_ok {W0 : List Rs} (hw : weight W0 ≤ 400) (hok : ∀ w ∈ W0, ∀ r ∈ w, RuneOk r) : ∀ st ∈ graphR W0, ∀ q ∈ st.2, ArrowOk q := by
  have hI := graph_inv W0
  have hd := graph_len W0
  have hst := hI.states
  have har := hI.arrows
  intro st hst q hq
  obtain ⟨i, hi⟩ := List.getElem?_of_mem hst
  obtain ⟨V, h1, _, h3, h4⟩ := hI.here i st hi
  have hV : ∀ w ∈ V, ∀ r ∈ w, RuneOk r := hI.all (fun V => ∀ w ∈ V, ∀ r ∈ w, RuneOk r) hok (fun V r hV hr w hw q hq => hV _ (mem_behind.1 hw) q (List.mem_cons_of_mem _ hq)) V (List.mem_of_getElem? h1)
  have hl := (List.getElem?_eq_some_iff.1 (h4 q hq)).1
  refine ⟨?_, by omega⟩
  have hf : q.1 ∈ firsts V := by rw [← h3]; exact List.mem_map_of_mem hq
  obtain ⟨t, ht⟩ := mem_firsts.1 hf
  exact hV _ ht _ (List.mem_cons_self ..)

end Go.Proofs.YtdfnngehhiociaaGreatDoor

namespace Go.Proofs.YtdfnngehhiociaaGreatDoor
open Go.Lib

/-- What stays so as parts are read. -/
structure Inv (k : Nat) (q : Rd) : Prop where
  le : k ≤ 6
  some' : k = 3 ∨ k = 4 → q.states ≠ []
  rune : RuneOk q.rune
  runes : ∀ s ∈ q.states, ∀ a ∈ s.2, RuneOk a.1
  few : q.states.length + q.left.length ≤ 20000
  fewer : ∀ s ∈ q.states, s.2.length + q.left.length ≤ 20000

theorem Inv.begin {l : List UInt8} (h : l.length ≤ 20000) : Inv 0 { left := l, count := 0, rune := 0, states := [] } :=
  ⟨by omega, fun h => by omega, (show RuneOk 0 from ⟨by decide, Or.inl (by decide), by decide⟩), fun s hs => by simp at hs, by simpa using h, fun s hs => by simp at hs⟩

theorem next_cases (l : List UInt8) : nextP l = 3 ∨ nextP l = 5 := by
  unfold nextP
  split
  · exact Or.inl rfl
  · exact Or.inr rfl

theorem rune_fine {l m : List UInt8} {r : Int} (h : runeP l = some (r, m)) : RuneOk r := by
  unfold runeP at h
  split at h
  · cases h
  · split at h
    · cases h
    · rename_i hb
      injection h with h
      injection h with h _
      rw [← h]
      exact decode_ok l hb

theorem Inv.step {k k' : Nat} {q q' : Rd} (h : Inv k q) (hk : k ≠ 6) (hr : readP k q = some (k', q')) : Inv k' q' := by
  have hlt := read_lt hr
  obtain ⟨h1, h2, h3, h4, h5, h6⟩ := h
  unfold readP at hr
  split at hr
  · cases ht : takeP [103, 108, 111, 115, 115] q.left with
    | none => rw [ht] at hr; cases hr
    | some l =>
      rw [ht] at hr
      simp at hr
      obtain ⟨rfl, rfl⟩ := hr
      simp only at hlt
      exact ⟨by omega, fun h => by omega, h3, h4, by simp only; omega, fun s hs => by have := h6 s hs; simp only; omega⟩
  · cases ht : takeP [32] q.left with
    | none => rw [ht] at hr; cases hr
    | some l =>
      rw [ht] at hr
      cases hn : numP l with
      | none => simp [hn] at hr
      | some n =>
        simp [hn] at hr
        obtain ⟨rfl, rfl⟩ := hr
        simp only at hlt
        exact ⟨by omega, fun h => by omega, h3, h4, by simp only; omega, fun s hs => by have := h6 s hs; simp only; omega⟩
  · cases ht : markP q.left with
    | none => rw [ht] at hr; cases hr
    | some m =>
      rw [ht] at hr
      simp at hr
      obtain ⟨rfl, rfl⟩ := hr
      simp only at hlt
      refine ⟨by rcases next_cases m.2 with e | e <;> omega, fun _ => by simp, h3, fun s hs => ?_, by simp only [List.length_append, List.length_singleton]; omega, fun s hs => ?_⟩
      · rcases List.mem_append.1 hs with hs | hs
        · exact h4 s hs
        · simp at hs; subst hs; intro a ha; simp at ha
      · rcases List.mem_append.1 hs with hs | hs
        · have := h6 s hs; simp only; omega
        · simp at hs; subst hs; simp; omega
  · cases ht : takeP [32] q.left with
    | none => rw [ht] at hr; cases hr
    | some l =>
      rw [ht] at hr
      cases hn : runeP l with
      | none => simp [hn] at hr
      | some n =>
        simp [hn] at hr
        obtain ⟨rfl, rfl⟩ := hr
        simp only at hlt
        exact ⟨by omega, fun _ => h2 (Or.inl rfl), rune_fine (r := n.1) (m := n.2) hn, h4, by simp only; omega, fun s hs => by have := h6 s hs; simp only; omega⟩
  · cases hn : numP q.left with
    | none => simp [hn] at hr
    | some n =>
      simp [hn] at hr
      obtain ⟨rfl, rfl⟩ := hr
      simp only at hlt
      have hne := h2 (Or.inr rfl)
      obtain ⟨g, st, hg⟩ : ∃ g st, q.states = g ++ [st] := ⟨q.states.dropLast, q.states.getLast hne, (List.dropLast_concat_getLast hne).symm⟩
      obtain ⟨b, A⟩ := st
      rw [hg] at h4 h5 h6
      rw [hg]
      have e : addArrow (g ++ [(b, A)]) (q.rune, n.1) = g ++ [(b, A ++ [(q.rune, n.1)])] := add_last g b A _
      rw [List.length_append, List.length_singleton] at h5
      refine ⟨by rcases next_cases n.2 with e | e <;> omega, fun _ => by simp only; rw [e]; simp, h3, fun s hs => ?_, by simp only; rw [e, List.length_append, List.length_singleton]; omega, fun s hs => ?_⟩
      · simp only at hs
        rw [e] at hs
        rcases List.mem_append.1 hs with hs | hs
        · exact h4 s (List.mem_append_left _ hs)
        · simp at hs
          subst hs
          intro a ha
          rcases List.mem_append.1 ha with ha | ha
          · exact h4 (b, A) (by simp) a ha
          · simp at ha; subst ha; exact h3
      · simp only at hs
        rw [e] at hs
        rcases List.mem_append.1 hs with hs | hs
        · have := h6 s (List.mem_append_left _ hs); simp only; omega
        · simp at hs
          subst hs
          have := h6 (b, A) (by simp)
          simp only [List.length_append, List.length_singleton] at this ⊢
          omega
  · cases ht : takeP [10] q.left with
    | none => rw [ht] at hr; cases hr
    | some l =>
      rw [ht] at hr
      simp at hr
      obtain ⟨rfl, rfl⟩ := hr
      simp only at hlt
      refine ⟨by split <;> omega, fun h => ?_, h3, h4, by simp only; omega, fun s hs => by have := h6 s hs; simp only; omega⟩
      split at h <;> omega

end Go.Proofs.YtdfnngehhiociaaGreatDoor
