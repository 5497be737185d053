/- In plain terms: lines of blanks and a word, each with one of the three ends, are these lines. -/
import Derived.Test.YtcijjbnkdjmklaaSegs
set_option linter.unusedVariables false
set_option linter.unusedSimpArgs false
namespace Go.Proofs.Ytcijjbnkdjmklaa

/-- One line: how many blanks; which end. -/
def lineT (n : Nat) : List Int := List.replicate n 32 ++ [9, 120, 32]
def endT (c : Int) : List Int := if c = 0 then [10] else if c = 1 then [13] else [13, 10]
def txtOf (ps : List (Nat × Int)) : List Int := ps.flatMap fun x => lineT x.1 ++ endT x.2
def wantOf (ps : List (Nat × Int)) : List (Nat × List Int) := ps.map fun x => (x.1, [9, 120, 32])

theorem txt_head (ps : List (Nat × Int)) : iAt (txtOf ps) 0 ≠ 10 := by
  cases ps with
  | nil => simp [txtOf, iAt]
  | cons x r =>
    obtain ⟨n, c⟩ := x
    cases n with
    | zero => simp [txtOf, lineT, iAt]
    | succ n => simp [txtOf, lineT, iAt, List.replicate_succ]

theorem endT_is (c : Int) (b : List Int) (hb : iAt b 0 ≠ 10) : IsEnd (endT c) b := by
  unfold endT
  split
  · exact .inl rfl
  · split
    · exact .inr (.inl ⟨rfl, hb⟩)
    · exact .inr (.inr rfl)

theorem lineT_no (n : Nat) : ∀ x, x ∈ lineT n → endP x = false := by
  intro x hx
  unfold lineT at hx
  rcases List.mem_append.1 hx with h | h
  · rw [(List.mem_replicate.1 h).2]; decide
  · simp at h
    rcases h with rfl | rfl | rfl <;> decide

theorem segs_txt (ps : List (Nat × Int)) : segs (txtOf ps) = ps.map fun x => lineT x.1 := by
  induction ps with
  | nil => exact segs_nil
  | cons x r ih =>
    have e : txtOf (x :: r) = lineT x.1 ++ endT x.2 ++ txtOf r := by simp [txtOf]
    rw [e, segs_first (lineT_no _) (endT_is _ _ (txt_head r)), ih]
    rfl

theorem inP_line (n : Nat) : inP (lineT n) = n := by
  unfold inP lineT
  induction n with
  | zero => decide
  | succ n ih =>
    rw [List.replicate_succ, List.cons_append]
    unfold run
    rw [if_pos (by decide), ih]

theorem lines_txt (ps : List (Nat × Int)) : linesP (txtOf ps) = wantOf ps := by
  rw [lines_segs, segs_txt, List.map_map]
  unfold wantOf
  apply List.map_congr_left
  intro x _
  show lineP (lineT x.1) = _
  unfold lineP
  rw [inP_line]
  unfold lineT
  simp

theorem txt_good (ps : List (Nat × Int)) : (txtOf ps).any badP = false := by
  rw [List.any_eq_false]
  intro x hx
  unfold txtOf at hx
  obtain ⟨y, -, hy⟩ := List.mem_flatMap.1 hx
  have : x = 32 ∨ x = 9 ∨ x = 120 ∨ x = 10 ∨ x = 13 := by
    unfold lineT endT at hy
    rcases List.mem_append.1 hy with h | h
    · rcases List.mem_append.1 h with h | h
      · exact .inl (List.mem_replicate.1 h).2
      · simp at h; omega
    · split at h
      · simp at h; omega
      · split at h
        · simp at h; omega
        · simp at h; omega
  rcases this with rfl | rfl | rfl | rfl | rfl <;> decide

theorem txt_snoc (ps : List (Nat × Int)) (x : Nat × Int) : txtOf (ps ++ [x]) = txtOf ps ++ lineT x.1 ++ endT x.2 := by simp [txtOf]
theorem want_snoc (ps : List (Nat × Int)) (x : Nat × Int) : wantOf (ps ++ [x]) = wantOf ps ++ [(x.1, [9, 120, 32])] := by simp [wantOf]
theorem txt_len (ps : List (Nat × Int)) (h : ∀ x, x ∈ ps → x.1 ≤ 7) : (txtOf ps).length ≤ 12 * ps.length := by
  induction ps with
  | nil => simp [txtOf]
  | cons x r ih =>
    have e : txtOf (x :: r) = lineT x.1 ++ endT x.2 ++ txtOf r := by simp [txtOf]
    have h1 := h x (by simp)
    have h2 := ih (fun y hy => h y (by simp [hy]))
    have h3 : (endT x.2).length ≤ 2 := by unfold endT; split <;> (try split) <;> simp
    rw [e]
    simp [lineT]
    omega
end Go.Proofs.Ytcijjbnkdjmklaa
