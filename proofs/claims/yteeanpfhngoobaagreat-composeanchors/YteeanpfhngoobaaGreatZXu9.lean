/- What a row of events makes, in plain terms. -/
import Derived.Test.YteeanpfhngoobaaGreatZXu8
set_option linter.all false
set_option maxRecDepth 100000
namespace Go.Proofs.YteeanpfhngoobaaGreat.Xk
open Go.RowKit

def intsL (es : List Value) : Prop := ∀ x ∈ es, ∃ s n, x = .tuple #[.string s, .int .i64 n]
theorem intsL.find {es : List Value} (h : intsL es) : ∀ (s : ByteArray) (i j : Nat) (u : Value), mfind s es i = some (j, u) → ∃ n, u = .int .i64 n := by
  induction es with
  | nil => intro s i j u hm; cases hm
  | cons x l ih =>
    intro s i j u hm
    obtain ⟨t, n, rfl⟩ := h x (by simp)
    unfold mfind at hm
    rw [show keyOf (.tuple #[.string t, .int .i64 n]) = some (t, .int .i64 n) from rfl] at hm
    dsimp only at hm
    split at hm
    · cases hm; exact ⟨n, rfl⟩
    · exact ih (fun x hx => h x (by simp [hx])) s (i + 1) j u hm
theorem intsL.m {es : List Value} (h : intsL es) : intsM es := fun s i u hm => h.find s 0 i u hm
theorem intsL.set {es : List Value} (h : intsL es) (s : ByteArray) (n : Int) : intsL (mset s (.int .i64 n) es) := by
  intro x hx
  unfold mset at hx
  split at hx
  · rcases List.mem_or_eq_of_mem_set hx with hx | rfl
    · exact h x hx
    · exact ⟨s, n, rfl⟩
  · rcases List.mem_append.1 hx with hx | hx
    · exact h x hx
    · exact ⟨s, n, List.mem_singleton.1 hx⟩
/-- The places around, and what is open. -/
def OkS (st : List Nat) (O : List Nat) : Prop := ∃ top b, st = top ++ [b] ∧ b ≤ 2 ∧ (∀ x ∈ top, 3 ≤ x ∧ x ≤ 5) ∧ top.length = O.length
/-- What holds of the maker's lists. -/
structure Good (st : List Nat) (s : PS) (i : Nat) : Prop where
  bd : Bd s.N s.R s.O i
  it : intsL s.T
  ok : OkS st s.O
theorem addP_good {s : PS} {K : Int} {nd : Nd} {an : ByteArray} {i : Nat} {N' : List Nd} {R' : List Int} {T' : List Value} (hb : Bd s.N s.R s.O i) (hi : intsL s.T) (hnd : nd.kids = []) (ha : addP s.N s.R s.O s.T K nd an = some (N', R', T')) :
    Bd N' R' s.O (i + 2) ∧ intsL T' ∧ N'.length = s.N.length + 1 := by
  unfold addP at ha
  split at ha
  · cases ha
  · cases ha
    refine ⟨(hb.node hnd).put _, ?_, by rw [putN_len]; simp⟩
    split
    · exact hi
    · exact hi.set _ _
theorem Bd.opens {N : List Nd} {R : List Int} {O : List Nat} {i t : Nat} (hb : Bd N R O i) (ht : t < N.length) : Bd N R (O ++ [t]) (i + 1) := ⟨by have := hb.r; omega, fun y hy => by have := hb.k y hy; omega, by have := hb.o; simp; omega, by have := hb.n; omega, fun u hu => by
  rcases List.mem_append.1 hu with hu | hu
  · exact hb.t u hu
  · rw [List.mem_singleton.1 hu]; exact ht⟩
theorem bn_low {b : Nat} (hb : b ≤ 2) : (bn b).1 ≤ 2 := by
  have : b = 0 ∨ b = 1 ∨ b = 2 := by omega
  rcases this with rfl | rfl | rfl <;> decide
theorem bn_high {b : Nat} (hb : 3 ≤ b ∧ b ≤ 5) : 3 ≤ (bn b).1 ∧ (bn b).1 ≤ 5 := by
  have : b = 3 ∨ b = 4 ∨ b = 5 := by omega
  rcases this with rfl | rfl | rfl <;> decide
theorem fol_low {b : Nat} {k : Int} (hb : b ≤ 2) : (fol b k).1 ≤ 2 := by
  unfold fol
  by_cases h1 : k = 1
  · rw [if_pos h1]; exact (by decide : (1 : Nat) ≤ 2)
  · rw [if_neg h1]
    by_cases h2 : k = 2
    · rw [if_pos h2]; exact (by decide : (0 : Nat) ≤ 2)
    · rw [if_neg h2]
      by_cases h4 : k = 4
      · rw [if_pos h4]; exact hb
      · rw [if_neg h4]
        by_cases h6 : k = 6
        · rw [if_pos h6]; exact hb
        · rw [if_neg h6]
          by_cases h7 : k = 7 ∨ k = 8 ∨ k = 3 ∨ k = 5
          · rw [if_pos h7]; exact bn_low hb
          · rw [if_neg h7]; exact hb
theorem fol_high {b : Nat} {k : Int} (hb : 3 ≤ b ∧ b ≤ 5) (hf : (fol b k).2 = true) : 3 ≤ (fol b k).1 ∧ (fol b k).1 ≤ 5 := by
  unfold fol at hf ⊢
  by_cases h1 : k = 1
  · rw [if_pos h1] at hf; have := of_decide_eq_true hf; omega
  · rw [if_neg h1] at hf ⊢
    by_cases h2 : k = 2
    · rw [if_pos h2] at hf; have := of_decide_eq_true hf; omega
    · rw [if_neg h2] at hf ⊢
      by_cases h4 : k = 4
      · rw [if_pos h4]; exact hb
      · rw [if_neg h4] at hf ⊢
        by_cases h6 : k = 6
        · rw [if_pos h6]; exact hb
        · rw [if_neg h6] at hf ⊢
          by_cases h7 : k = 7 ∨ k = 8 ∨ k = 3 ∨ k = 5
          · rw [if_pos h7]; exact bn_high hb
          · rw [if_neg h7]; exact hb
theorem stp_ok {st st' O : List Nat} {k : Int} (h : OkS st O) (hs : stp st k = some st') :
    ((k = 4 ∨ k = 6) → O ≠ [] ∧ OkS st' O.dropLast) ∧ ((k = 3 ∨ k = 5) → ∀ t, OkS st' (O ++ [t])) ∧ (¬ (k = 4 ∨ k = 6) → ¬ (k = 3 ∨ k = 5) → OkS st' O) := by
  obtain ⟨top, b, rfl, hb, ht, hl⟩ := h
  cases top with
  | nil =>
    have hO : O = [] := List.eq_nil_of_length_eq_zero (by simpa using hl.symm)
    subst hO
    simp only [List.nil_append, stp_cons] at hs
    split at hs
    · rename_i hf
      cases hs
      refine ⟨fun h46 => ?_, fun h35 t => ?_, fun h46 h35 => ?_⟩
      · exfalso
        unfold fol at hf
        rcases h46 with rfl | rfl
        · simp at hf; omega
        · simp at hf; omega
      · have hb2 : (fol b k).1 ≤ 2 := fol_low hb
        unfold nxt
        rcases h35 with rfl | rfl
        · exact ⟨[3], (fol b 3).1, rfl, hb2, by simp, rfl⟩
        · exact ⟨[4], (fol b 5).1, rfl, hb2, by simp, rfl⟩
      · have h3 : ¬ k = 3 := fun e => h35 (.inl e)
        have h5 : ¬ k = 5 := fun e => h35 (.inr e)
        unfold nxt
        rw [if_neg h3, if_neg h5, if_neg h46]
        exact ⟨[], (fol b k).1, rfl, fol_low hb, by simp, rfl⟩
    · cases hs
  | cons h0 tp =>
    have hO : O ≠ [] := fun e => by rw [e] at hl; simp at hl
    have h0r := ht h0 (by simp)
    have htp : ∀ x ∈ tp, 3 ≤ x ∧ x ≤ 5 := fun x hx => ht x (by simp [hx])
    simp only [List.cons_append, stp_cons] at hs
    split at hs
    · rename_i hf
      cases hs
      have hb3 : 3 ≤ (fol h0 k).1 ∧ (fol h0 k).1 ≤ 5 := fol_high h0r hf
      refine ⟨fun h46 => ⟨hO, ?_⟩, fun h35 t => ?_, fun h46 h35 => ?_⟩
      · have h3 : ¬ k = 3 := by omega
        have h5 : ¬ k = 5 := by omega
        unfold nxt
        rw [if_neg h3, if_neg h5, if_pos h46]
        exact ⟨tp, b, rfl, hb, htp, by rw [List.length_dropLast, ← hl]; simp⟩
      · unfold nxt
        rcases h35 with rfl | rfl
        · refine ⟨3 :: (fol h0 3).1 :: tp, b, rfl, hb, fun x hx => ?_, by simp at hl ⊢; omega⟩
          rcases List.mem_cons.1 hx with rfl | hx
          · omega
          · rcases List.mem_cons.1 hx with rfl | hx
            · exact hb3
            · exact htp x hx
        · refine ⟨4 :: (fol h0 5).1 :: tp, b, rfl, hb, fun x hx => ?_, by simp at hl ⊢; omega⟩
          rcases List.mem_cons.1 hx with rfl | hx
          · omega
          · rcases List.mem_cons.1 hx with rfl | hx
            · exact hb3
            · exact htp x hx
      · have h3 : ¬ k = 3 := fun e => h35 (.inl e)
        have h5 : ¬ k = 5 := fun e => h35 (.inr e)
        unfold nxt
        rw [if_neg h3, if_neg h5, if_neg h46]
        refine ⟨(fol h0 k).1 :: tp, b, rfl, hb, fun x hx => ?_, by simp at hl ⊢; omega⟩
        rcases List.mem_cons.1 hx with rfl | hx
        · exact hb3
        · exact htp x hx
    · cases hs
theorem take_good {st st' : List Nat} {s : PS} {D K : Int} {e : Ev} {i : Nat} (hg : Good st s i) (hs : stp st e.k = some st') (hr : (takeP D K s e).1 = 0) : Good st' (takeP D K s e).2 (i + 3) := by
  obtain ⟨hb, hi, ho⟩ := hg
  obtain ⟨g1, g2, g3⟩ := stp_ok ho hs
  unfold takeP at hr ⊢
  by_cases k1 : e.k = 1
  · rw [if_pos k1]
    exact ⟨hb.more (by omega), (fun x hx => by simp at hx), g3 (by omega) (by omega)⟩
  · rw [if_neg k1] at hr ⊢
    by_cases k7 : e.k = 7
    · rw [if_pos k7] at hr ⊢
      cases ha : addP s.N s.R s.O s.T K (ndOf e) e.an with
      | none => rw [ha] at hr; cases hr
      | some q =>
        obtain ⟨N', R', T'⟩ := q
        obtain ⟨b1, b2, -⟩ := addP_good hb hi (by unfold ndOf; rw [if_pos k7]) ha
        exact ⟨b1.more (by omega), b2, g3 (by omega) (by omega)⟩
    · rw [if_neg k7] at hr ⊢
      by_cases k35 : e.k = 3 ∨ e.k = 5
      · rw [if_pos k35] at hr ⊢
        unfold beginP at hr ⊢
        split at hr
        · cases hr
        · rename_i hD
          rw [if_neg hD]
          cases ha : addP s.N s.R s.O s.T K (ndOf e) e.an with
          | none => rw [ha] at hr; cases hr
          | some q =>
            obtain ⟨N', R', T'⟩ := q
            obtain ⟨b1, b2, b3⟩ := addP_good hb hi (by unfold ndOf; rw [if_neg k7]) ha
            exact ⟨b1.opens (by omega), b2, g2 k35 _⟩
      · rw [if_neg k35] at hr ⊢
        by_cases k46 : e.k = 4 ∨ e.k = 6
        · rw [if_pos k46] at hr ⊢
          exact ⟨⟨by have := hb.r; dsimp only; omega, fun y hy => by have := hb.k y hy; omega, by have := hb.o; simp; omega, by have := hb.n; dsimp only; omega, fun t ht => hb.t t (List.dropLast_subset _ ht)⟩, hi, (g1 k46).2⟩
        · rw [if_neg k46] at hr ⊢
          by_cases k8 : e.k = 8
          · rw [if_pos k8] at hr ⊢
            unfold aliasP at hr ⊢
            split at hr
            · exact ⟨(hb.put _).more (by omega), hi, g3 k46 k35⟩
            · cases hr
          · rw [if_neg k8] at hr ⊢
            exact ⟨hb.more (by omega), hi, g3 k46 k35⟩
/-- What a whole row makes. -/
def goP (D K : Int) : List Ev → PS → Int × PS
  | [], s => (0, s)
  | e :: L, s => if (takeP D K s e).1 = 0 then goP D K L (takeP D K s e).2 else ((takeP D K s e).1, s)
end Go.Proofs.YteeanpfhngoobaaGreat.Xk
