/- In plain terms: the lines of texts one behind the other. -/
import Derived.Test.YtcijjbnkdjmklaaCuts
set_option linter.unusedVariables false
set_option linter.unusedSimpArgs false
namespace Go.Proofs.Ytcijjbnkdjmklaa

def segsF : Nat → List Int → List (List Int)
  | 0, _ => []
  | f + 1, l => if l = [] then [] else l.take (upTo endP l) :: (if upTo endP l < l.length then segsF f (l.drop (upTo endP l + endSz (l.drop (upTo endP l)))) else [])
def segs (l : List Int) : List (List Int) := segsF l.length l
theorem segsF_same : ∀ (f g : Nat) (l : List Int), l.length ≤ f → l.length ≤ g → segsF f l = segsF g l
  | 0, 0, _, _, _ => rfl
  | 0, g + 1, l, h, _ => by rw [segsF, segsF, if_pos (List.eq_nil_of_length_eq_zero (by omega))]
  | f + 1, 0, l, _, h => by rw [segsF, segsF, if_pos (List.eq_nil_of_length_eq_zero (by omega))]
  | f + 1, g + 1, l, h1, h2 => by
    have hz := endSz_pos (l.drop (upTo endP l))
    rw [segsF, segsF]
    by_cases hl : l = []
    · rw [if_pos hl, if_pos hl]
    · have hp : 0 < l.length := List.length_pos_iff.2 hl
      rw [if_neg hl, if_neg hl]
      by_cases hs : upTo endP l < l.length
      · rw [if_pos hs, if_pos hs, segsF_same f g _ (by rw [List.length_drop]; omega) (by rw [List.length_drop]; omega)]
      · rw [if_neg hs, if_neg hs]

theorem segs_nil : segs [] = [] := rfl
theorem segs_last {l : List Int} (h : l ≠ []) (hs : ¬ upTo endP l < l.length) : segs l = [l] := by
  have hp : 0 < l.length := List.length_pos_iff.2 h
  obtain ⟨m, hm⟩ : ∃ m, l.length = m + 1 := ⟨l.length - 1, by omega⟩
  unfold segs
  rw [hm, segsF, if_neg h, if_neg hs, List.take_of_length_le (by omega)]
theorem segs_more {l : List Int} (hs : upTo endP l < l.length) : segs l = l.take (upTo endP l) :: segs (l.drop (upTo endP l + endSz (l.drop (upTo endP l)))) := by
  have h : l ≠ [] := by rintro rfl; simp at hs
  have hz := endSz_pos (l.drop (upTo endP l))
  have hp : 0 < l.length := List.length_pos_iff.2 h
  obtain ⟨m, hm⟩ : ∃ m, l.length = m + 1 := ⟨l.length - 1, by omega⟩
  unfold segs
  rw [hm, segsF, if_neg h, if_pos hs, segsF_same m _ _ (by rw [List.length_drop]; omega) (Nat.le_refl _)]

theorem segs_cuts (l : List Int) : ∀ n k, l.length - k ≤ n → (cutsAt l k).map (pieceOf l) = segs (l.drop k) := by
  intro n
  induction n with
  | zero => intro k hk; rw [cuts_end (by omega), List.drop_eq_nil_of_le (by omega), segs_nil]; rfl
  | succ n ih =>
    intro k hk
    by_cases h : k < l.length
    · have hlen : (l.drop k).length = l.length - k := List.length_drop
      by_cases hs : k + upTo endP (l.drop k) < l.length
      · have h1 := endSz_pos (l.drop (k + upTo endP (l.drop k)))
        rw [cuts_more h rfl hs, List.map_cons, ih _ (by omega), segs_more (l := l.drop k) (by omega), List.drop_drop, List.drop_drop, ← Nat.add_assoc]
        rfl
      · rw [cuts_last h hs, segs_last (by intro e; rw [e] at hlen; simp at hlen; omega) (by omega)]
        simp only [List.map_cons, List.map_nil, pieceOf]
        rw [List.take_of_length_le (by omega)]
    · rw [cuts_end h, List.drop_eq_nil_of_le (by omega), segs_nil]; rfl

theorem lines_segs (l : List Int) : linesP l = (segs l).map lineP := by
  have := segs_cuts l l.length 0 (by omega)
  rw [List.drop_zero] at this
  unfold linesP
  rw [← this, List.map_map]
  rfl

/-- A line's end. -/
def IsEnd (e b : List Int) : Prop := e = [10] ∨ (e = [13] ∧ iAt b 0 ≠ 10) ∨ e = [13, 10]

theorem upTo_append {a : List Int} (h : ∀ x, x ∈ a → endP x = false) (c : Int) (hc : endP c = true) (t : List Int) : upTo endP (a ++ c :: t) = a.length := by
  unfold upTo
  induction a with
  | nil => simp [run, hc]
  | cons x u ih =>
    have hx := h x (by simp)
    have := ih (fun y hy => h y (by simp [hy]))
    simp only [List.cons_append, List.length_cons]
    unfold run
    simp [hx, this]
theorem upTo_whole {a : List Int} (h : ∀ x, x ∈ a → endP x = false) : upTo endP a = a.length := by
  unfold upTo
  induction a with
  | nil => rfl
  | cons x u ih =>
    have hx := h x (by simp)
    have := ih (fun y hy => h y (by simp [hy]))
    unfold run
    simp [hx, this]

theorem end_head {e b : List Int} (h : IsEnd e b) : ∃ c t, e = c :: t ∧ endP c = true ∧ endSz (e ++ b) = e.length ∧ (e ++ b).drop e.length = b := by
  rcases h with rfl | ⟨rfl, hb⟩ | rfl
  · exact ⟨10, [], rfl, by decide, by unfold endSz; simp [iAt], by simp⟩
  · refine ⟨13, [], rfl, by decide, ?_, by simp⟩
    unfold endSz
    rw [if_neg]
    · rfl
    · rintro ⟨h1, -, h2⟩
      apply hb
      simpa [iAt] using h2
  · exact ⟨13, [10], rfl, by decide, by unfold endSz; simp [iAt], by simp⟩

theorem segs_first {a e b : List Int} (h : ∀ x, x ∈ a → endP x = false) (he : IsEnd e b) : segs (a ++ e ++ b) = a :: segs b := by
  obtain ⟨c, t, rfl, hc, h2, h3⟩ := end_head he
  have hu : upTo endP (a ++ (c :: t) ++ b) = a.length := by
    rw [List.append_assoc, List.cons_append]
    exact upTo_append h c hc _
  rw [segs_more (by rw [hu]; simp), hu]
  have hd : (a ++ (c :: t) ++ b).drop a.length = (c :: t) ++ b := by rw [List.append_assoc]; simp
  rw [← List.drop_drop, hd, h2, h3]
  congr 1
  rw [List.append_assoc]
  simp

theorem upTo_mem {a : List Int} (h : ¬ upTo endP a < a.length) : ∀ x, x ∈ a → endP x = false := by
  intro x hx
  cases hh : endP x with
  | false => rfl
  | true => exact absurd ((any_iff endP a).1 (List.any_eq_true.2 ⟨x, hx, hh⟩)) h

theorem take_not_end (a : List Int) : ∀ x, x ∈ a.take (upTo endP a) → endP x = false := by
  unfold upTo
  induction a with
  | nil => intro x hx; simp at hx
  | cons y u ih =>
    intro x hx
    cases hy : endP y with
    | true => rw [show run (fun c => !endP c) (y :: u) = 0 from by simp [run, hy]] at hx; simp at hx
    | false =>
      rw [show run (fun c => !endP c) (y :: u) = run (fun c => !endP c) u + 1 from by simp [run, hy]] at hx
      rcases List.mem_cons.1 hx with rfl | hx
      · exact hy
      · exact ih x hx

/-- Texts one behind the other, with a line's end between. -/
theorem segs_parts : ∀ (n : Nat) (a e b : List Int), a.length ≤ n → a ≠ [] → endP (iAt a (a.length - 1)) = false → IsEnd e b → segs (a ++ e ++ b) = segs a ++ segs b := by
  intro n
  induction n with
  | zero => intro a e b hn ha; exact absurd (List.eq_nil_of_length_eq_zero (by omega)) ha
  | succ n ih =>
    intro a e b hn ha hl he
    by_cases hs : upTo endP a < a.length
    · -- a = p ++ r, r begins with an end
      have hst := run_stop (fun c => !endP c) a hs
      have hc0 : endP (iAt a (upTo endP a)) = true := by simpa [upTo] using hst
      have hlt : upTo endP a + 1 < a.length := by
        rcases Nat.lt_or_ge (upTo endP a + 1) a.length with h | h
        · exact h
        · exfalso
          have : a.length - 1 = upTo endP a := by omega
          rw [this, hc0] at hl
          cases hl
      obtain ⟨s, hS⟩ : ∃ s, upTo endP a = s := ⟨_, rfl⟩
      have hp := take_not_end a
      rw [hS] at hs hc0 hlt hp
      have hr : (a.drop s).length = a.length - s := List.length_drop
      have hz := endSz_pos (a.drop s)
      -- the end lies within a, and something is left
      have hsame : endSz (a.drop s ++ (e ++ b)) = endSz (a.drop s) := by
        unfold endSz
        have i0 : iAt (a.drop s ++ (e ++ b)) 0 = iAt (a.drop s) 0 := by unfold iAt; rw [List.getElem?_append_left (by omega)]
        have i1 : iAt (a.drop s ++ (e ++ b)) 1 = iAt (a.drop s) 1 := by unfold iAt; rw [List.getElem?_append_left (by omega)]
        rw [i0, i1]
        have h1 : 1 < (a.drop s ++ (e ++ b)).length := by rw [List.length_append]; omega
        have h2 : 1 < (a.drop s).length := by omega
        simp only [h1, h2, true_and]
      have hleft : s + endSz (a.drop s) < a.length := by
        rcases Nat.lt_or_ge (s + endSz (a.drop s)) a.length with h | h
        · exact h
        · exfalso
          have h2 : endSz (a.drop s) = 2 := by omega
          have hlast : a.length - 1 = s + 1 := by omega
          unfold endSz at h2
          split at h2
          · rename_i hh
            have : iAt a (s + 1) = 10 := by have := hh.2.2; simpa [iAt] using this
            rw [hlast, this] at hl
            exact absurd hl (by decide)
          · omega
      have hw : upTo endP (a ++ e ++ b) = s := by
        have hd : a.drop s = iAt a s :: a.drop (s + 1) := by
          rw [List.drop_eq_getElem_cons hs]
          congr 1
          simp [iAt, hs]
        have : a ++ e ++ b = a.take s ++ iAt a s :: (a.drop (s + 1) ++ e ++ b) := by
          conv => lhs; rw [← List.take_append_drop s a, hd]
          simp
        rw [this, upTo_append hp _ hc0, List.length_take]
        omega
      have hdrop : (a ++ e ++ b).drop (s + endSz (a.drop s)) = a.drop (s + endSz (a.drop s)) ++ e ++ b := by
        rw [List.append_assoc, List.drop_append_of_le_length (by omega), List.append_assoc]
      have hds : (a ++ e ++ b).drop s = a.drop s ++ (e ++ b) := by rw [List.append_assoc, List.drop_append_of_le_length (by omega)]
      rw [segs_more (l := a ++ e ++ b) (by rw [hw]; simp; omega), hw, hds, hsame, hdrop, ih (a.drop (s + endSz (a.drop s))) e b (by rw [List.length_drop]; omega)
        (by intro e'; have := congrArg List.length e'; rw [List.length_drop] at this; simp at this; omega) ?_ he]
      · rw [segs_more (l := a) (by rw [hS]; exact hs), hS, List.cons_append]
        congr 1
        rw [List.append_assoc, List.take_append_of_le_length (by omega)]
      · rw [List.length_drop]
        have : iAt (a.drop (s + endSz (a.drop s))) (a.length - (s + endSz (a.drop s)) - 1) = iAt a (a.length - 1) := by
          unfold iAt
          rw [List.getElem?_drop]
          congr 2
          omega
        rw [this]
        exact hl
    · rw [segs_first (upTo_mem hs) he, segs_last ha hs]
      rfl

theorem end_good {e b : List Int} (h : IsEnd e b) : e.any badP = false := by
  rcases h with rfl | ⟨rfl, -⟩ | rfl <;> decide
end Go.Proofs.Ytcijjbnkdjmklaa
