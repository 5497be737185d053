/- A list of lines that is read; fold's trimmed. -/
import Derived.Test.YtgmcomfeggidnaaRep
set_option linter.unusedVariables false
set_option linter.unusedSimpArgs false
namespace Go.Proofs.Ytgmcomfeggidnaa
open Go.RowKit Go.Shelf

/-- A line in memory: where it lies, what it holds, how much room it has. -/
structure Row where
  q : Option Addr
  t : List Int
  c : Nat

/-- The slice at p holds these lines. -/
def Mt (w : World) (p : Option Addr) (R : List Row) : Prop :=
  (∀ (j : Nat) (r : Row), R[j]? = some r → r.t.length ≤ r.c ∧ r.c ≤ maxLen ∧ Is w r.q r.t) ∧
  (R = [] ∨ ∃ b o, p = some ⟨b, o, none⟩ ∧ ∀ (j : Nat) (r : Row), R[j]? = some r → w.cell? ⟨b, o + j, none⟩ = some (.slice r.q r.t.length r.c))

theorem Mt.at {w : World} {p : Option Addr} {R : List Row} (h : Mt w p R) (hl : 0 < R.length) : ∃ b o, p = some ⟨b, o, none⟩ ∧ ∀ (j : Nat) (r : Row), R[j]? = some r → w.cell? ⟨b, o + j, none⟩ = some (.slice r.q r.t.length r.c) := by
  rcases h.2 with rfl | h
  · simp at hl
  · exact h
theorem Mt.on {A B : World} {p : Option Addr} {R : List Row} (h : Mt A p R) (hb : Below A.heap.size A B) : Mt B p R := by
  refine ⟨fun j r hr => ⟨(h.1 j r hr).1, (h.1 j r hr).2.1, (h.1 j r hr).2.2.on hb⟩, ?_⟩
  rcases h.2 with e | ⟨b, o, e, hc⟩
  · exact .inl e
  · exact .inr ⟨b, o, e, fun j r hr => (hb.cell (p := ⟨b, o + j, none⟩) (World.block_lt_of_cell? A _ (hc j r hr))).trans (hc j r hr)⟩
theorem Mt.lt {w : World} {p : Option Addr} {R : List Row} (h : Mt w p R) : ∀ a, p = some a → 0 < R.length → a.block < w.heap.size := by
  intro a e hl
  obtain ⟨b, o, rfl, hc⟩ := h.at hl
  cases e
  exact World.block_lt_of_cell? w ⟨b, o + 0, none⟩ (hc 0 R[0] (by simp [hl]))

/-- u, at q', is a piece of what lies at q. -/
def Sub (q : Option Addr) (t : List Int) (q' : Option Addr) (u : List Int) : Prop :=
  u = [] ∨ ∃ b o k, q = some ⟨b, o, none⟩ ∧ q' = some ⟨b, o + k, none⟩ ∧ k + u.length ≤ t.length ∧ u = (t.drop k).take u.length

theorem Sub.is {w : World} {q q' : Option Addr} {t u : List Int} (h : Sub q t q' u) (hI : Is w q t) : Is w q' u := by
  rcases h with rfl | ⟨b, o, k, rfl, rfl, h1, h2⟩
  · exact .inl rfl
  · rw [h2]
    exact (hI.drop k).take _
theorem Sub.refl {w : World} {q : Option Addr} {t : List Int} (h : Is w q t) : Sub q t q t := by
  rcases h with rfl | ⟨b, o, rfl, -⟩
  · exact .inl rfl
  · exact .inr ⟨b, o, 0, rfl, rfl, by omega, by simp⟩
theorem Sub.len {q q' : Option Addr} {t u : List Int} (h : Sub q t q' u) : u.length ≤ t.length := by
  rcases h with rfl | ⟨b, o, k, -, -, h1, -⟩
  · simp
  · omega
theorem Sub.block {q q' : Option Addr} {t u : List Int} (h : Sub q t q' u) {n₀ : Nat} (hq : ∀ a, q = some a → 0 < t.length → a.block < n₀) : ∀ a, q' = some a → 0 < u.length → a.block < n₀ := by
  rcases h with rfl | ⟨b, o, k, rfl, rfl, h1, -⟩
  · intro a e h; simp at h
  · intro a e h
    cases e
    have := hq ⟨b, o, none⟩ rfl (by omega)
    exact this
theorem Sub.tail {q q' : Option Addr} {t u : List Int} (h : Sub q t q' u) (c : Nat) (hc : u.length ≤ c) : Sub q t (if c = 1 then q' else q'.map (·.add 1)) (u.drop 1) := by
  by_cases hl : u.length ≤ 1
  · exact .inl (List.drop_eq_nil_of_le hl)
  · rcases h with rfl | ⟨b, o, k, rfl, rfl, h1, h2⟩
    · exact .inl (by simp)
    · rw [if_neg (by omega), Option.map_some, add_plain]
      refine .inr ⟨b, o, k + 1, rfl, by rw [Nat.add_assoc], by rw [List.length_drop]; omega, ?_⟩
      conv => lhs; rw [h2]
      rw [List.drop_take, List.drop_drop, List.length_drop]
theorem Sub.init {q q' : Option Addr} {t u : List Int} (h : Sub q t q' u) (m : Nat) : Sub q t q' (u.take m) := by
  rcases h with rfl | ⟨b, o, k, rfl, rfl, h1, h2⟩
  · exact .inl (by simp)
  · refine .inr ⟨b, o, k, rfl, rfl, by rw [List.length_take]; omega, ?_⟩
    conv => lhs; rw [h2]
    rw [List.take_take, List.length_take]

/-- Without blanks at the beginning; at the end. -/
def dropF (u : List Int) : List Int := u.dropWhile blankP
def dropB (u : List Int) : List Int := (u.reverse.dropWhile blankP).reverse
def trimF (front back : Bool) (u : List Int) : List Int :=
  let v := if front then dropF u else u
  if back then dropB v else v

theorem iAt_zero (x : Int) (u : List Int) : iAt (x :: u) 0 = x := rfl
theorem dropF_more {u : List Int} (h : 0 < u.length) (hb : blankP (iAt u 0) = true) : dropF (u.drop 1) = dropF u := by
  cases u with
  | nil => simp at h
  | cons x u =>
    rw [iAt_zero] at hb
    show dropF u = dropF (x :: u)
    unfold dropF
    rw [List.dropWhile_cons_of_pos hb]
theorem dropF_stop {u : List Int} (h : 0 < u.length → blankP (iAt u 0) = false) : dropF u = u := by
  cases u with
  | nil => rfl
  | cons x u =>
    have hb := h (by simp)
    rw [iAt_zero] at hb
    unfold dropF
    rw [List.dropWhile_cons_of_neg (by simp [hb])]
theorem last_split {u : List Int} (h : 0 < u.length) : u = u.take (u.length - 1) ++ [iAt u (u.length - 1)] := by
  have := take_more (t := u) (j := u.length - 1) (by omega)
  rw [← this, show u.length - 1 + 1 = u.length by omega, List.take_length]
theorem dropB_more {u : List Int} (h : 0 < u.length) (hb : blankP (iAt u (u.length - 1)) = true) : dropB (u.take (u.length - 1)) = dropB u := by
  conv => rhs; rw [last_split h]
  unfold dropB
  rw [List.reverse_append, List.reverse_singleton, List.singleton_append, List.dropWhile_cons_of_pos hb]
theorem dropB_stop {u : List Int} (h : 0 < u.length → blankP (iAt u (u.length - 1)) = false) : dropB u = u := by
  by_cases hl : 0 < u.length
  · have hb := h hl
    have hs := last_split hl
    generalize iAt u (u.length - 1) = x at hb hs
    generalize u.take (u.length - 1) = v at hs
    subst hs
    unfold dropB
    rw [List.reverse_append, List.reverse_singleton, List.singleton_append, List.dropWhile_cons_of_neg (by simp [hb])]
    simp
  · have : u = [] := List.eq_nil_of_length_eq_zero (by omega)
    subst this
    rfl

/-- A piece of what lies at q0 is handed back. -/
def Piece (q0 : Option Addr) (t u : List Int) (e : Ending) : Prop := ∃ (q : Option Addr) (c : Nat), e = .returned (.slice q u.length c) ∧ u.length ≤ c ∧ Sub q0 t q u

def slen : Value → Nat
  | .slice _ n _ => n
  | _ => 0

end Go.Proofs.Ytgmcomfeggidnaa
