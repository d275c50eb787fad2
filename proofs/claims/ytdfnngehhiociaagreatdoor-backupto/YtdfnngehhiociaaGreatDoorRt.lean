import Derived.Test.YtdfnngehhiociaaGreatDoorFewer
namespace Go.Proofs.YtdfnngehhiociaaGreatDoor
open Go.RowKit

/-! What Encode writes, Decode reads. -/

theorem words_perm {L M : List Bs} (h : L.Perm M) : wordsR L = wordsR M := by
  unfold wordsR
  rw [mergeSort_of_perm h]

theorem words_nodup {L : List Bs} (hG : Good L) (hn : L.Nodup) : (wordsR L).Nodup := by
  have h1 : (L.mergeSort leB).Nodup := (List.mergeSort_perm L leB).nodup_iff.2 hn
  rw [good_words hG] at h1
  unfold List.Nodup at h1 ⊢
  exact (List.pairwise_map.1 h1).imp fun h e => h (by rw [e])

theorem decodes_text {L : List Bs} (hG : Good L) (hn : L.Nodup) : ∃ S, decodes (textT (graphR (wordsR L))) = some S ∧ S.Perm L := by
  have hs := good_sound hG
  have hw := sound_weight hs
  have hok : ∀ r ∈ wordsR L, ∀ x ∈ r, RuneOk x := fun r hr x hx => (hs.1 r hr x hx).1
  have hle := graph_le (wordsR L)
  have hpos := graph_pos (wordsR L)
  have hlen := text_len hw
  obtain ⟨r, hread⟩ := read_text (graphR (wordsR L)) 0 0 (arrows_ok hw hok) (fun e => by rw [e] at hpos; simp at hpos) (by omega)
  have hmap : (wordsR L).map encW = L.mergeSort leB := (good_words hG).symm
  have hll : (wordsR L).length = L.length := by unfold wordsR; rw [List.length_map, List.length_mergeSort]
  obtain ⟨S, hS, hperm⟩ := words_graph (words_nodup hG hn) hs.2.2 hok (E := comeE) (fun S x hx hxS hl => by
    rw [hmap] at hx
    have hxL := List.mem_mergeSort.1 hx
    have h40 := hG.1
    unfold comeE
    rw [if_neg (by rw [hG.2 x hxL]; simp), if_neg hxS, if_neg (by omega)])
  have hSL : S.Perm L := (hmap ▸ hperm).trans (List.mergeSort_perm L leB)
  refine ⟨S, ?_, hSL⟩
  unfold decodes
  rw [if_neg (by omega)]
  have hread' : readAll 0 (rd0 (textT (graphR (wordsR L)))) = some { left := [], count := (graphR (wordsR L)).length, rune := r, states := graphR (wordsR L) } := hread
  rw [hread']
  show (wordsP comeE (graphR (wordsR L))).bind _ = _
  rw [hS]
  show (if _ then _ else _) = _
  rw [if_pos (by rw [words_perm hSL])]

end Go.Proofs.YtdfnngehhiociaaGreatDoor
