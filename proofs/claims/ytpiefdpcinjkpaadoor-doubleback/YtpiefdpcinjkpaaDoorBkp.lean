/- What Write writes, in plain terms: it is printed, it is closed at its end, and it is read as it was. -/
import Derived.Test.YtpiefdpcinjkpaaDoorEsp
import Derived.Test.YtpiefdpcinjkpaaDoorAlv
set_option linter.unusedVariables false
set_option linter.unusedSimpArgs false
namespace Go.Proofs.YtpiefdpcinjkpaaDoor
open Go.RowKit Go.Shelf

def shortOf (c : Int) : Option Int := (shortsL.find? fun x => decide (x.2 = c)).map (·.1)
/-- The signs of the escape for c. -/
def signsP (c : Int) : List Int := 92 :: match shortOf c with
  | some s => [s]
  | none => if 255 < c then 117 :: hexL true 4 c else 120 :: hexL true 2 c
def fixP (c : Int) : Int := if pointP c then c else 65533
def oneP (c : Int) : List Int := if standsP (fixP c) then [fixP c] else signsP (fixP c)
def bodyP (l : List Int) : List Int := l.flatMap oneP
/-- What a sign of the written text is. -/
def goodP (x : Int) : Bool := printP x && !decide (x = 9 ∨ x = 10 ∨ x = 13 ∨ x = 133 ∨ x = 65279 ∨ x = 8232 ∨ x = 8233)

theorem shorts_ok : ∀ x ∈ shortsL, countP x.1 = 0 ∧ shortAt x.1 = some x.2 := by decide
theorem shortOf_mem {c s : Int} (h : shortOf c = some s) : (s, c) ∈ shortsL := by
  unfold shortOf at h
  cases hf : shortsL.find? (fun x => decide (x.2 = c)) with
  | none => rw [hf] at h; cases h
  | some x =>
    rw [hf] at h
    have h1 := List.mem_of_find?_eq_some hf
    have h2 := List.find?_some hf
    obtain ⟨a, b⟩ := x
    simp at h h2
    subst h h2
    exact h1
theorem fix_point (c : Int) : pointP (fixP c) = true := by
  unfold fixP
  split
  · assumption
  · decide
theorem small_of_not {c : Int} (hp : pointP c = true) (hs : standsP c = false) : 0 ≤ c ∧ c < 65536 := by
  unfold pointP at hp
  unfold standsP oddP printP at hs
  simp at hp hs
  omega
theorem first_signs {c : Int} (hp : pointP c = true) (hs : standsP c = false) (r : List Int) : ∃ t, signsP c = 92 :: t ∧ firstP (t ++ r) true = ⟨t.length + 1, c, 0⟩ := by
  obtain ⟨h0, h1⟩ := small_of_not hp hs
  unfold signsP
  cases hsh : shortOf c with
  | some s =>
    have hm := shorts_ok _ (shortOf_mem hsh)
    refine ⟨[s], rfl, ?_⟩
    rw [List.singleton_append]
    unfold firstP
    dsimp only
    rw [if_neg (by have := hm.1; dsimp only at this; omega)]
    have h2 := hm.2
    dsimp only at h2
    rw [h2]
    rfl
  | none =>
    dsimp only
    by_cases hb : 255 < c
    · rw [if_pos hb]
      refine ⟨_, rfl, ?_⟩
      rw [List.cons_append]
      have := first_hex true 117 c r (by decide) h0 (show c < 16 ^ 4 by omega)
      rw [hp, if_pos rfl] at this
      rw [List.length_cons, hexL_len]
      exact this
    · rw [if_neg hb]
      refine ⟨_, rfl, ?_⟩
      rw [List.cons_append]
      have := first_hex true 120 c r (by decide) h0 (show c < 16 ^ 2 by omega)
      rw [hp, if_pos rfl] at this
      rw [List.length_cons, hexL_len]
      exact this
theorem it_one (c : Int) (r : List Int) : (∃ b, itP true 0 (oneP c ++ r) = (fixP c, b) :: itP true 0 r) ∧ flP true 0 (oneP c ++ r) = flP true 0 r := by
  have hp := fix_point c
  unfold oneP
  generalize fixP c = x at hp ⊢
  by_cases hs : standsP x = true
  · rw [if_pos hs, List.singleton_append]
    have h92 : x ≠ 92 := by rintro rfl; exact absurd hs (by decide)
    rw [itP, flP, if_neg h92, if_neg h92]
    exact ⟨⟨false, rfl⟩, rfl⟩
  · have hs' : standsP x = false := by simpa using hs
    rw [if_neg hs]
    obtain ⟨t, h1, h2⟩ := first_signs hp hs' r
    have hd : (t ++ r).drop (t.length + 1 - 1) = r := by rw [Nat.add_sub_cancel, List.drop_left]
    rw [h1, List.cons_append, itP, flP, if_pos rfl, if_pos rfl, h2, if_pos rfl, (it_skip true _ _).1, (it_skip true _ _).2]
    dsimp only
    rw [hd]
    exact ⟨⟨true, rfl⟩, rfl⟩
theorem it_body : ∀ l : List Int, flP true 0 (bodyP l) = 0 ∧ (itP true 0 (bodyP l)).map (·.1) = l.map fixP
  | [] => ⟨rfl, rfl⟩
  | c :: l => by
    obtain ⟨h1, h2⟩ := it_body l
    obtain ⟨⟨b, h3⟩, h4⟩ := it_one c (bodyP l)
    have e : bodyP (c :: l) = oneP c ++ bodyP l := by simp [bodyP]
    rw [e, h3, h4, List.map_cons, h2]
    exact ⟨h1, rfl⟩

theorem dg_good (d : Int) (h0 : 0 ≤ d) (h1 : d < 16) : goodP (dg true d) = true ∧ dg true d ≠ 34 ∧ dg true d ≠ 92 := by
  rcases of16 h0 h1 with rfl | rfl | rfl | rfl | rfl | rfl | rfl | rfl | rfl | rfl | rfl | rfl | rfl | rfl | rfl | rfl <;> decide
theorem hex_good : ∀ (m : Nat) (c : Int), ∀ x ∈ hexL true m c, goodP x = true ∧ x ≠ 34 ∧ x ≠ 92
  | 0, c => by intro x hx; simp [hexL] at hx
  | m + 1, c => by
    intro x hx
    rw [hexL] at hx
    rcases List.mem_append.1 hx with h | h
    · exact hex_good m _ x h
    · simp at h; subst h; exact dg_good _ (by omega) (by omega)
theorem shorts_good : ∀ x ∈ shortsL, shortOf x.2 = some x.1 → goodP x.1 = true := by decide
/-- An escape: a backslash, a printed sign, and behind it neither a quote nor a backslash. -/
theorem signs_form (c : Int) : ∃ s t, signsP c = 92 :: s :: t ∧ goodP s = true ∧ ∀ x ∈ t, goodP x = true ∧ x ≠ 34 ∧ x ≠ 92 := by
  unfold signsP
  cases hsh : shortOf c with
  | some s => exact ⟨s, [], rfl, shorts_good _ (shortOf_mem hsh) hsh, by simp⟩
  | none =>
    dsimp only
    by_cases hb : 255 < c
    · rw [if_pos hb]; exact ⟨117, _, rfl, by decide, hex_good 4 c⟩
    · rw [if_neg hb]; exact ⟨120, _, rfl, by decide, hex_good 2 c⟩
theorem stands_good {x : Int} (h : standsP x = true) : goodP x = true ∧ x ≠ 34 ∧ x ≠ 92 := by
  unfold standsP oddP at h
  unfold goodP
  simp at h ⊢
  obtain ⟨h1, h2⟩ := h
  exact ⟨⟨h2, by omega⟩, by omega, by omega⟩
theorem one_good (c : Int) : ∀ x ∈ oneP c, goodP x = true := by
  intro x hx
  unfold oneP at hx
  split at hx
  · rename_i h
    simp at hx
    subst hx
    exact (stands_good h).1
  · obtain ⟨s, t, e, h1, h2⟩ := signs_form (fixP c)
    rw [e] at hx
    rcases List.mem_cons.1 hx with rfl | hx
    · decide
    · rcases List.mem_cons.1 hx with rfl | hx
      · exact h1
      · exact (h2 x hx).1
theorem body_good (l : List Int) : ∀ x ∈ bodyP l, goodP x = true := by
  intro x hx
  obtain ⟨c, -, h⟩ := List.mem_flatMap.1 hx
  exact one_good c x h

theorem end_plain : ∀ (t r : List Int) (p : Nat), (∀ x ∈ t, x ≠ 34 ∧ x ≠ 92) → endP p 0 (t ++ r) = endP (p + t.length) 0 r
  | [], r, p, _ => rfl
  | x :: t, r, p, h => by
    have hx := h x (by simp)
    rw [List.cons_append, endP, if_neg hx.1, if_neg hx.2, end_plain t r (p + 1) (fun y hy => h y (by simp [hy])), List.length_cons, show p + 1 + t.length = p + (t.length + 1) by omega]
theorem end_one (c : Int) (r : List Int) (p : Nat) : endP p 0 (oneP c ++ r) = endP (p + (oneP c).length) 0 r := by
  unfold oneP
  split
  · rename_i h
    exact end_plain [fixP c] r p (fun x hx => by simp at hx; subst hx; exact (stands_good h).2)
  · obtain ⟨s, t, e, h1, h2⟩ := signs_form (fixP c)
    rw [e, List.cons_append, List.cons_append, endP, if_neg (by decide), if_pos rfl, endP, end_plain t r _ (fun x hx => (h2 x hx).2), List.length_cons, List.length_cons, show p + 1 + 1 + t.length = p + (t.length + 1 + 1) by omega]
theorem end_body : ∀ (l : List Int) (p : Nat), endP p 0 (bodyP l ++ [34]) = some (p + (bodyP l).length)
  | [], p => rfl
  | c :: l, p => by
    have e : bodyP (c :: l) = oneP c ++ bodyP l := by simp [bodyP]
    rw [e, List.append_assoc, end_one, end_body l, List.length_append, Nat.add_assoc]
theorem one_len (c : Int) : (oneP c).length ≤ 6 := by
  unfold oneP
  split
  · simp
  · unfold signsP
    cases shortOf (fixP c) with
    | some s => simp
    | none =>
      dsimp only
      split
      · simp [hexL_len]
      · simp [hexL_len]
theorem body_len : ∀ l : List Int, (bodyP l).length ≤ 6 * l.length
  | [] => by simp [bodyP]
  | c :: l => by
    have e : bodyP (c :: l) = oneP c ++ bodyP l := by simp [bodyP]
    have h1 := one_len c
    have h2 := body_len l
    rw [e, List.length_append, List.length_cons]
    omega
end Go.Proofs.YtpiefdpcinjkpaaDoor
