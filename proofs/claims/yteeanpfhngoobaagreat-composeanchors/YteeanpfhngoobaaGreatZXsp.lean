/- Limits, in plain terms: what is just enough, and what is one less. -/
import Derived.Test.YteeanpfhngoobaaGreatZXuh
import Derived.Test.YteeanpfhngoobaaGreatZXt7
set_option linter.all false
set_option maxRecDepth 100000
namespace Go.Proofs.YteeanpfhngoobaaGreat.Xk
open Go.RowKit

def isN (e : Ev) : Prop := e.k = 7 ∨ e.k = 3 ∨ e.k = 5
instance (e : Ev) : Decidable (isN e) := by unfold isN; infer_instance
theorem nodesP_cons (e : Ev) (L : List Ev) : nodesP (e :: L) = nodesP L + (if isN e then 1 else 0) := by
  unfold nodesP
  rw [List.countP_cons]
  congr 1
  by_cases h : isN e
  · rw [if_pos h, if_pos (decide_eq_true (show e.k = 7 ∨ e.k = 3 ∨ e.k = 5 from h))]
  · rw [if_neg h, if_neg (by rw [decide_eq_true_iff]; exact h)]
theorem take_node {D K : Int} {s : PS} {e : Ev} (h : isN e) (hD : e.k = 3 ∨ e.k = 5 → (s.O.length : Int) ≠ D) :
    takeP D K s e = if (s.N.length : Int) = K then (9, s) else (0, ⟨(putN (s.N ++ [ndOf e]) s.R s.O s.N.length).1, (putN (s.N ++ [ndOf e]) s.R s.O s.N.length).2, if e.k = 3 ∨ e.k = 5 then s.O ++ [s.N.length] else s.O, if e.an.toList == [] then s.T else mset e.an (.int .i64 s.N.length) s.T⟩) := by
  unfold takeP
  rw [if_neg (by rcases h with h | h | h <;> omega)]
  by_cases h7 : e.k = 7
  · rw [if_pos h7, if_neg (show ¬ (e.k = 3 ∨ e.k = 5) by omega)]
    unfold addP
    by_cases hK : (s.N.length : Int) = K
    · rw [if_pos hK, if_pos hK]
    · rw [if_neg hK, if_neg hK]
  · have h35 : e.k = 3 ∨ e.k = 5 := by rcases h with h | h | h <;> omega
    rw [if_neg h7, if_pos h35, if_pos h35]
    unfold beginP
    rw [if_neg (hD h35)]
    unfold addP
    by_cases hK : (s.N.length : Int) = K
    · rw [if_pos hK, if_pos hK]
    · rw [if_neg hK, if_neg hK]
theorem take_deep {D K : Int} {s : PS} {e : Ev} (h : e.k = 3 ∨ e.k = 5) (hD : (s.O.length : Int) = D) : takeP D K s e = (8, s) := by
  unfold takeP
  rw [if_neg (by omega), if_neg (by omega), if_pos h]
  unfold beginP
  rw [if_pos hD]
theorem take_rest {D K D' K' : Int} {s : PS} {e : Ev} (h : ¬ isN e) : takeP D K s e = takeP D' K' s e := by
  have h7 : ¬ e.k = 7 := fun h2 => h (.inl h2)
  have h35 : ¬ (e.k = 3 ∨ e.k = 5) := fun h2 => h (.inr h2)
  unfold takeP
  rw [if_neg h7, if_neg h35, if_neg h7, if_neg h35]
theorem take_rest_N {D K : Int} {s : PS} {e : Ev} (h : ¬ isN e) : (takeP D K s e).2.N.length = s.N.length ∧ (takeP D K s e).2.O = (if e.k = 4 ∨ e.k = 6 then s.O.dropLast else s.O) := by
  have h7 : ¬ e.k = 7 := fun h2 => h (.inl h2)
  have h35 : ¬ (e.k = 3 ∨ e.k = 5) := fun h2 => h (.inr h2)
  unfold takeP
  rw [if_neg h7, if_neg h35]
  by_cases h1 : e.k = 1
  · rw [if_pos h1, if_neg (show ¬ (e.k = 4 ∨ e.k = 6) by omega)]
    exact ⟨rfl, rfl⟩
  · rw [if_neg h1]
    by_cases h46 : e.k = 4 ∨ e.k = 6
    · rw [if_pos h46, if_pos h46]
      exact ⟨rfl, rfl⟩
    · rw [if_neg h46, if_neg h46]
      by_cases h8 : e.k = 8
      · rw [if_pos h8]
        unfold aliasP
        split
        · exact ⟨putN_len _ _ _ _, rfl⟩
        · exact ⟨rfl, rfl⟩
      · rw [if_neg h8]
        exact ⟨rfl, rfl⟩
/-- What an event that is taken makes of what is open. -/
theorem take_O {D K : Int} {s : PS} {e : Ev} (h0 : (takeP D K s e).1 = 0) : (takeP D K s e).2.O = (if e.k = 3 ∨ e.k = 5 then s.O ++ [s.N.length] else if e.k = 4 ∨ e.k = 6 then s.O.dropLast else s.O) ∧ (takeP D K s e).2.N.length = s.N.length + (if isN e then 1 else 0) ∧ (e.k = 3 ∨ e.k = 5 → (s.O.length : Int) ≠ D) ∧ (isN e → (s.N.length : Int) ≠ K) := by
  by_cases hn : isN e
  · have hD : e.k = 3 ∨ e.k = 5 → (s.O.length : Int) ≠ D := fun h35 he => by
      rw [take_deep h35 he] at h0
      cases h0
    have hK : (s.N.length : Int) ≠ K := fun he => by
      rw [take_node hn hD, if_pos he] at h0
      cases h0
    rw [take_node hn hD, if_neg hK, if_pos hn]
    refine ⟨?_, by rw [putN_len]; simp, hD, fun _ => hK⟩
    by_cases h35 : e.k = 3 ∨ e.k = 5
    · rw [if_pos h35, if_pos h35]
    · rw [if_neg h35, if_neg h35, if_neg (show ¬ (e.k = 4 ∨ e.k = 6) by rcases hn with h | h | h <;> omega)]
  · have h35 : ¬ (e.k = 3 ∨ e.k = 5) := fun h2 => hn (.inr h2)
    obtain ⟨a, b⟩ := take_rest_N (D := D) (K := K) (s := s) hn
    rw [a, b, if_neg hn, if_neg h35]
    exact ⟨rfl, rfl, fun h => absurd h h35, fun h => absurd h hn⟩
theorem take_same {D K D' K' : Int} {s : PS} {e : Ev} (h0 : (takeP D K s e).1 = 0) (hD : e.k = 3 ∨ e.k = 5 → (s.O.length : Int) ≠ D') (hK : isN e → (s.N.length : Int) ≠ K') : takeP D' K' s e = takeP D K s e := by
  by_cases hn : isN e
  · obtain ⟨-, -, a, b⟩ := take_O h0
    rw [take_node hn hD, take_node hn a, if_neg (hK hn), if_neg (b hn)]
  · exact take_rest hn
theorem rdep_ge : ∀ (l : List Ev) (n m : Int), m ≤ rdep n m l
  | [], n, m => Int.le_refl _
  | e :: t, n, m => by
    unfold rdep
    dsimp only
    refine Int.le_trans ?_ (rdep_ge t _ _)
    split <;> omega
/-- The places around behind an event, and how many are open. -/
theorem ok_step {st st1 : List Nat} {D K : Int} {s : PS} {e : Ev} (hok : OkS st s.O) (hs : stp st e.k = some st1) (h0 : (takeP D K s e).1 = 0) :
    OkS st1 (takeP D K s e).2.O ∧ ((takeP D K s e).2.O.length : Int) = (if e.k = 3 ∨ e.k = 5 then (s.O.length : Int) + 1 else if e.k = 4 ∨ e.k = 6 then (s.O.length : Int) - 1 else s.O.length) := by
  obtain ⟨g1, g2, g3⟩ := stp_ok hok hs
  obtain ⟨a, -, -, -⟩ := take_O h0
  rw [a]
  by_cases h35 : e.k = 3 ∨ e.k = 5
  · rw [if_pos h35, if_pos h35]
    exact ⟨g2 h35 _, by simp⟩
  · rw [if_neg h35, if_neg h35]
    by_cases h46 : e.k = 4 ∨ e.k = 6
    · rw [if_pos h46, if_pos h46]
      obtain ⟨q1, q2⟩ := g1 h46
      refine ⟨q2, ?_⟩
      have := List.length_pos_iff.2 q1
      rw [List.length_dropLast]
      omega
    · rw [if_neg h46, if_neg h46]
      exact ⟨g3 h46 h35, rfl⟩
theorem go_cons {D K : Int} {e : Ev} {L : List Ev} {s : PS} (h : (goP D K (e :: L) s).1 = 0) : (takeP D K s e).1 = 0 ∧ goP D K (e :: L) s = goP D K L (takeP D K s e).2 := by
  by_cases h0 : (takeP D K s e).1 = 0
  · exact ⟨h0, if_pos h0⟩
  · have : goP D K (e :: L) s = ((takeP D K s e).1, s) := if_neg h0
    rw [this] at h
    exact absurd h h0
theorem rn_cons {st x : List Nat} {e : Ev} {L : List Ev} (h : rn st (e :: L) = some x) : ∃ st1, stp st e.k = some st1 ∧ rn st1 L = some x := by
  have h' : (match stp st e.k with | none => none | some s' => rn s' L) = some x := h
  cases hs : stp st e.k with
  | none => rw [hs] at h'; cases h'
  | some s' => rw [hs] at h'; exact ⟨s', rfl, h'⟩
/-- What was taken keeps its limits. -/
theorem go_within {D K : Int} : ∀ (L : List Ev) (s : PS) (st x : List Nat) (m : Int), (goP D K L s).1 = 0 → OkS st s.O → rn st L = some x → (s.O.length : Int) ≤ m → m ≤ D → (s.N.length : Int) ≤ K → rdep s.O.length m L ≤ D ∧ (s.N.length : Int) + nodesP L ≤ K
  | [], s, st, x, m, h0, hok, hr, hm, hD, hK => ⟨hD, by simpa [nodesP] using hK⟩
  | e :: L, s, st, x, m, h0, hok, hr, hm, hD, hK => by
    obtain ⟨h1, h2⟩ := go_cons h0
    rw [h2] at h0
    obtain ⟨st1, hs1, hr1⟩ := rn_cons hr
    obtain ⟨a, b, c, d⟩ := take_O h1
    obtain ⟨hok1, hO⟩ := ok_step hok hs1 h1
    generalize (takeP D K s e).2 = s1 at h0 hok1 hO b
    have hm1 : (s1.O.length : Int) ≤ D := by
      rw [hO]
      split
      · rename_i h35
        have := c h35
        omega
      · split <;> omega
    have hK1 : (s1.N.length : Int) ≤ K := by
      rw [b]
      split
      · rename_i hn
        have := d hn
        omega
      · omega
    have A := go_within L s1 st1 x (if (s1.O.length : Int) > m then s1.O.length else m) h0 hok1 hr1 (by split <;> omega) (by split <;> omega) hK1
    unfold rdep
    dsimp only
    rw [← hO, nodesP_cons]
    refine ⟨A.1, ?_⟩
    have := A.2
    split at b <;> rename_i hn
    · rw [if_pos hn]; omega
    · rw [if_neg hn]; omega
/-- Greater limits make the same. -/
theorem go_more {D K D' K' : Int} : ∀ (L : List Ev) (s : PS) (st x : List Nat) (m : Int), (goP D K L s).1 = 0 → OkS st s.O → rn st L = some x → (s.O.length : Int) ≤ m → rdep s.O.length m L ≤ D' → (s.N.length : Int) + nodesP L ≤ K' → goP D' K' L s = goP D K L s
  | [], s, st, x, m, h0, hok, hr, hm, hD, hK => rfl
  | e :: L, s, st, x, m, h0, hok, hr, hm, hD, hK => by
    obtain ⟨h1, h2⟩ := go_cons h0
    rw [h2] at h0
    obtain ⟨st1, hs1, hr1⟩ := rn_cons hr
    obtain ⟨a, b, c, d⟩ := take_O h1
    obtain ⟨hok1, hO⟩ := ok_step hok hs1 h1
    unfold rdep at hD
    dsimp only at hD
    rw [← hO] at hD
    rw [nodesP_cons] at hK
    have hge := rdep_ge L ((takeP D K s e).2.O.length : Int) (if ((takeP D K s e).2.O.length : Int) > m then ((takeP D K s e).2.O.length : Int) else m)
    have hsame : takeP D' K' s e = takeP D K s e := take_same h1 (fun h35 => by
      rw [if_pos h35] at hO
      have : ((takeP D K s e).2.O.length : Int) ≤ (if ((takeP D K s e).2.O.length : Int) > m then ((takeP D K s e).2.O.length : Int) else m) := by split <;> omega
      omega) (fun hn => by rw [if_pos hn] at hK; omega)
    rw [h2, show goP D' K' (e :: L) s = goP D' K' L (takeP D K s e).2 by
      show (if (takeP D' K' s e).1 = 0 then goP D' K' L (takeP D' K' s e).2 else _) = _
      rw [hsame, if_pos h1]]
    generalize (takeP D K s e).2 = s1 at h0 hok1 hO b hD
    exact go_more L s1 st1 x _ h0 hok1 hr1 (by split <;> omega) hD (by
      split at b <;> rename_i hn
      · rw [if_pos hn] at hK; omega
      · rw [if_neg hn] at hK; omega)
/-- One less of depth is told. -/
theorem go_deep {D K D' K' : Int} : ∀ (L : List Ev) (s : PS) (st x : List Nat) (m : Int), (goP D K L s).1 = 0 → OkS st s.O → rn st L = some x → (s.O.length : Int) ≤ m → m ≤ D' → rdep s.O.length m L = D' + 1 → (s.N.length : Int) + nodesP L ≤ K' → (goP D' K' L s).1 = 8
  | [], s, st, x, m, h0, hok, hr, hm, hm2, hD, hK => by
    have : m = D' + 1 := hD
    omega
  | e :: L, s, st, x, m, h0, hok, hr, hm, hm2, hD, hK => by
    obtain ⟨h1, h2⟩ := go_cons h0
    rw [h2] at h0
    obtain ⟨st1, hs1, hr1⟩ := rn_cons hr
    obtain ⟨a, b, c, d⟩ := take_O h1
    obtain ⟨hok1, hO⟩ := ok_step hok hs1 h1
    by_cases h8 : (e.k = 3 ∨ e.k = 5) ∧ (s.O.length : Int) = D'
    · show (if (takeP D' K' s e).1 = 0 then goP D' K' L (takeP D' K' s e).2 else ((takeP D' K' s e).1, s)).1 = 8
      rw [take_deep h8.1 h8.2]
      rfl
    · unfold rdep at hD
      dsimp only at hD
      rw [← hO] at hD
      rw [nodesP_cons] at hK
      have hsame : takeP D' K' s e = takeP D K s e := take_same h1 (fun h35 h => h8 ⟨h35, h⟩) (fun hn => by rw [if_pos hn] at hK; omega)
      rw [show goP D' K' (e :: L) s = goP D' K' L (takeP D K s e).2 by
        show (if (takeP D' K' s e).1 = 0 then goP D' K' L (takeP D' K' s e).2 else _) = _
        rw [hsame, if_pos h1]]
      have hle : ((takeP D K s e).2.O.length : Int) ≤ D' := by
        rw [hO]
        split
        · rename_i h35
          have : ¬ (s.O.length : Int) = D' := fun h => h8 ⟨h35, h⟩
          omega
        · split <;> omega
      generalize (takeP D K s e).2 = s1 at h0 hok1 hO b hD hle
      exact go_deep L s1 st1 x _ h0 hok1 hr1 (by split <;> omega) (by split <;> omega) hD (by
        split at b <;> rename_i hn
        · rw [if_pos hn] at hK; omega
        · rw [if_neg hn] at hK; omega)
/-- One node less is told. -/
theorem go_many {D K D' K' : Int} : ∀ (L : List Ev) (s : PS) (st x : List Nat) (m : Int), (goP D K L s).1 = 0 → OkS st s.O → rn st L = some x → (s.O.length : Int) ≤ m → rdep s.O.length m L ≤ D' → (s.N.length : Int) ≤ K' → (s.N.length : Int) + nodesP L = K' + 1 → (goP D' K' L s).1 = 9
  | [], s, st, x, m, h0, hok, hr, hm, hD, hK2, hK => by
    have : (nodesP [] : Int) = 0 := rfl
    omega
  | e :: L, s, st, x, m, h0, hok, hr, hm, hD, hK2, hK => by
    obtain ⟨h1, h2⟩ := go_cons h0
    rw [h2] at h0
    obtain ⟨st1, hs1, hr1⟩ := rn_cons hr
    obtain ⟨a, b, c, d⟩ := take_O h1
    obtain ⟨hok1, hO⟩ := ok_step hok hs1 h1
    unfold rdep at hD
    dsimp only at hD
    rw [← hO] at hD
    rw [nodesP_cons] at hK
    have hge := rdep_ge L ((takeP D K s e).2.O.length : Int) (if ((takeP D K s e).2.O.length : Int) > m then ((takeP D K s e).2.O.length : Int) else m)
    have hnd : e.k = 3 ∨ e.k = 5 → (s.O.length : Int) ≠ D' := fun h35 => by
      rw [if_pos h35] at hO
      have : ((takeP D K s e).2.O.length : Int) ≤ (if ((takeP D K s e).2.O.length : Int) > m then ((takeP D K s e).2.O.length : Int) else m) := by split <;> omega
      omega
    by_cases h9 : isN e ∧ (s.N.length : Int) = K'
    · show (if (takeP D' K' s e).1 = 0 then goP D' K' L (takeP D' K' s e).2 else ((takeP D' K' s e).1, s)).1 = 9
      rw [take_node h9.1 hnd, if_pos h9.2]
      rfl
    · have hsame : takeP D' K' s e = takeP D K s e := take_same h1 hnd (fun hn h => h9 ⟨hn, h⟩)
      rw [show goP D' K' (e :: L) s = goP D' K' L (takeP D K s e).2 by
        show (if (takeP D' K' s e).1 = 0 then goP D' K' L (takeP D' K' s e).2 else _) = _
        rw [hsame, if_pos h1]]
      have hle : ((takeP D K s e).2.N.length : Int) ≤ K' := by
        rw [b]
        split
        · rename_i hn
          have : ¬ (s.N.length : Int) = K' := fun h => h9 ⟨hn, h⟩
          omega
        · omega
      generalize (takeP D K s e).2 = s1 at h0 hok1 hO b hD hle
      exact go_many L s1 st1 x _ h0 hok1 hr1 (by split <;> omega) hD hle (by
        split at b <;> rename_i hn
        · rw [if_pos hn] at hK; omega
        · rw [if_neg hn] at hK; omega)
theorem okS0 : OkS [0] ps0.O := ⟨[], 0, rfl, by decide, fun x hx => by simp at hx, rfl⟩
/-- The limits of a row that makes a graph. -/
theorem limits_plain {L : List Ev} {N : List Nd} {R : List Int} (h : graphP L 200 20000 = (0, N, R)) :
    0 ≤ rdepthP L ∧ rdepthP L ≤ 200 ∧ (nodesP L : Int) ≤ 20000 ∧ (∀ more : Int, 0 ≤ more → graphP L (rdepthP L + more) (nodesP L + more) = (0, N, R)) ∧ (rdepthP L ≠ 0 → (graphP L (rdepthP L - 1) (nodesP L)).1 = 8) ∧ (nodesP L ≠ 0 → (graphP L (rdepthP L) ((nodesP L : Int) - 1)).1 = 9) := by
  unfold graphP at h
  cases hr : rightP L with
  | false => rw [hr] at h; cases h
  | true =>
    rw [hr, if_pos rfl] at h
    dsimp only at h
    have e1 : cutP 200 200 = 200 := rfl
    have e2 : cutP 20000 20000 = 20000 := rfl
    rw [e1, e2] at h
    have h0 : (goP 200 20000 L ps0).1 = 0 := by
      show (goP 200 20000 L ⟨[], [], [], []⟩).1 = 0
      by_cases h0 : (goP 200 20000 L ⟨[], [], [], []⟩).1 = 0
      · exact h0
      · rw [if_neg h0] at h
        exact absurd (congrArg Prod.fst h) h0
    have hs : (goP 200 20000 L ps0).2.N = N ∧ (goP 200 20000 L ps0).2.R = R := by
      have h' : (0, (goP 200 20000 L ps0).2.N, (goP 200 20000 L ps0).2.R) = ((0 : Int), N, R) := by
        have := h
        rw [if_pos (show (goP 200 20000 L ⟨[], [], [], []⟩).1 = 0 from h0)] at this
        exact this
      cases h'
      exact ⟨rfl, rfl⟩
    obtain ⟨x, hx⟩ : ∃ x, rn [0] L = some x := ⟨_, ((rightP_iff L).1 hr).2⟩
    have hd : rdepthP L = rdep 0 0 L := by
      unfold rdepthP
      rw [← right_eq, hr, if_pos rfl]
    have hd0 : 0 ≤ rdep 0 0 L := rdep_ge L 0 0
    obtain ⟨w1, w2⟩ := go_within L ps0 [0] x 0 h0 okS0 hx (Int.le_refl _) (by decide) (by decide)
    have w1 : rdep 0 0 L ≤ 200 := w1
    have w2 : (nodesP L : Int) ≤ 20000 := by
      have : ((0 : Nat) : Int) + nodesP L ≤ 20000 := w2
      omega
    rw [hd]
    refine ⟨hd0, w1, w2, fun more hm => ?_, fun hne => ?_, fun hne => ?_⟩
    · have A := go_more (D' := cutP (rdep 0 0 L + more) 200) (K' := cutP (nodesP L + more) 20000) L ps0 [0] x 0 h0 okS0 hx (Int.le_refl _) (by
        show rdep 0 0 L ≤ _
        unfold cutP
        (repeat' split) <;> omega) (by
        show ((0 : Nat) : Int) + nodesP L ≤ _
        unfold cutP
        (repeat' split) <;> omega)
      unfold graphP
      rw [hr, if_pos rfl]
      dsimp only
      rw [show (⟨[], [], [], []⟩ : PS) = ps0 from rfl, A, if_pos h0, hs.1, hs.2]
    · have hc : cutP (rdep 0 0 L - 1) 200 = rdep 0 0 L - 1 := by
        unfold cutP
        (repeat' split) <;> omega
      have hc2 : cutP (nodesP L) 20000 = nodesP L := by
        unfold cutP
        (repeat' split) <;> omega
      have A := go_deep (D' := rdep 0 0 L - 1) (K' := nodesP L) L ps0 [0] x 0 h0 okS0 hx (Int.le_refl _) (by omega) (by show rdep 0 0 L = _; omega) (by
        show ((0 : Nat) : Int) + nodesP L ≤ _
        omega)
      unfold graphP
      rw [hr, if_pos rfl, hc, hc2]
      dsimp only
      rw [show (⟨[], [], [], []⟩ : PS) = ps0 from rfl, if_neg (by rw [A]; decide), A]
    · have hc : cutP (rdep 0 0 L) 200 = rdep 0 0 L := by
        unfold cutP
        (repeat' split) <;> omega
      have hc2 : cutP ((nodesP L : Int) - 1) 20000 = (nodesP L : Int) - 1 := by
        unfold cutP
        (repeat' split) <;> omega
      have A := go_many (D' := rdep 0 0 L) (K' := (nodesP L : Int) - 1) L ps0 [0] x 0 h0 okS0 hx (Int.le_refl _) (by show rdep 0 0 L ≤ _; omega) (by show ((0 : Nat) : Int) ≤ _; omega) (by
        show ((0 : Nat) : Int) + nodesP L = _
        omega)
      unfold graphP
      rw [hr, if_pos rfl, hc, hc2]
      dsimp only
      rw [show (⟨[], [], [], []⟩ : PS) = ps0 from rfl, if_neg (by rw [A]; decide), A]
end Go.Proofs.YteeanpfhngoobaaGreat.Xk
namespace Go.Proofs.YteeanpfhngoobaaGreat.Xk
open Go.RowKit

/-- What simp leaves alone. -/
def lpD (P : Program) (tm : List Value) (o : Oper) : Option (Value × List (Nat × Nat)) := lpure P tm o
section
variable {P : Program} {tm : List Value} {x y : Operand} {t yt type : TypeId} {dst : Option Tmp} {pos : String} {after : Array Edge} {guard : Option (Nat × Bool)}
theorem sp_lss : lpure P tm ⟨dst, .binOp .lss t x y yt, type, pos, after, guard⟩ = (match evl tm x, evl tm y with
  | some (.int k a), some (.int k' b) => if k = k' then some (.bool (decide (a < b)), []) else lpD P tm ⟨dst, .binOp .lss t x y yt, type, pos, after, guard⟩
  | _, _ => lpD P tm ⟨dst, .binOp .lss t x y yt, type, pos, after, guard⟩) := by
  split
  · rename_i k a k' b hx hy
    split
    · rename_i hk
      subst hk
      exact lp_of (h := ⟨0, []⟩) hx hy (lop_lss hx hy)
    · rfl
  · rfl
theorem sp_leq : lpure P tm ⟨dst, .binOp .leq t x y yt, type, pos, after, guard⟩ = (match evl tm x, evl tm y with
  | some (.int k a), some (.int k' b) => if k = k' then some (.bool (decide (a ≤ b)), []) else lpD P tm ⟨dst, .binOp .leq t x y yt, type, pos, after, guard⟩
  | _, _ => lpD P tm ⟨dst, .binOp .leq t x y yt, type, pos, after, guard⟩) := by
  split
  · rename_i k a k' b hx hy
    split
    · rename_i hk
      subst hk
      exact lp_of (h := ⟨0, []⟩) hx hy (lop_leq hx hy)
    · rfl
  · rfl
theorem sp_gtr : lpure P tm ⟨dst, .binOp .gtr t x y yt, type, pos, after, guard⟩ = (match evl tm x, evl tm y with
  | some (.int k a), some (.int k' b) => if k = k' then some (.bool (decide (b < a)), []) else lpD P tm ⟨dst, .binOp .gtr t x y yt, type, pos, after, guard⟩
  | _, _ => lpD P tm ⟨dst, .binOp .gtr t x y yt, type, pos, after, guard⟩) := by
  split
  · rename_i k a k' b hx hy
    split
    · rename_i hk
      subst hk
      exact lp_of (h := ⟨0, []⟩) hx hy (lop_gtr hx hy)
    · rfl
  · rfl
theorem sp_geq : lpure P tm ⟨dst, .binOp .geq t x y yt, type, pos, after, guard⟩ = (match evl tm x, evl tm y with
  | some (.int k a), some (.int k' b) => if k = k' then some (.bool (decide (b ≤ a)), []) else lpD P tm ⟨dst, .binOp .geq t x y yt, type, pos, after, guard⟩
  | _, _ => lpD P tm ⟨dst, .binOp .geq t x y yt, type, pos, after, guard⟩) := by
  split
  · rename_i k a k' b hx hy
    split
    · rename_i hk
      subst hk
      exact lp_of (h := ⟨0, []⟩) hx hy (lop_geq hx hy)
    · rfl
  · rfl
theorem sp_eql : lpure P tm ⟨dst, .binOp .eql t x y yt, type, pos, after, guard⟩ = (match evl tm x, evl tm y with
  | some (.int k a), some (.int k' b) => if k = k' then some (.bool (a == b), []) else lpD P tm ⟨dst, .binOp .eql t x y yt, type, pos, after, guard⟩
  | _, _ => lpD P tm ⟨dst, .binOp .eql t x y yt, type, pos, after, guard⟩) := by
  split
  · rename_i k a k' b hx hy
    split
    · rename_i hk
      subst hk
      exact lp_of (h := ⟨0, []⟩) hx hy (lop_eql hx hy)
    · rfl
  · rfl
theorem sp_neq : lpure P tm ⟨dst, .binOp .neq t x y yt, type, pos, after, guard⟩ = (match evl tm x, evl tm y with
  | some (.int k a), some (.int k' b) => if k = k' then some (.bool (a != b), []) else lpD P tm ⟨dst, .binOp .neq t x y yt, type, pos, after, guard⟩
  | _, _ => lpD P tm ⟨dst, .binOp .neq t x y yt, type, pos, after, guard⟩) := by
  split
  · rename_i k a k' b hx hy
    split
    · rename_i hk
      subst hk
      exact lp_of (h := ⟨0, []⟩) hx hy (lop_neq hx hy)
    · rfl
  · rfl
theorem sp_add : lpure P tm ⟨dst, .binOp .add t x y yt, type, pos, after, guard⟩ = (match evl tm x, evl tm y with
  | some (.int k a), some (.int k' b) => if k = k' then some (.int k (k.wrap (a + b)), []) else lpD P tm ⟨dst, .binOp .add t x y yt, type, pos, after, guard⟩
  | _, _ => lpD P tm ⟨dst, .binOp .add t x y yt, type, pos, after, guard⟩) := by
  split
  · rename_i k a k' b hx hy
    split
    · rename_i hk
      subst hk
      exact lp_of (h := ⟨0, []⟩) hx hy (lop_add hx hy)
    · rfl
  · rfl
theorem sp_sub : lpure P tm ⟨dst, .binOp .sub t x y yt, type, pos, after, guard⟩ = (match evl tm x, evl tm y with
  | some (.int k a), some (.int k' b) => if k = k' then some (.int k (k.wrap (a - b)), []) else lpD P tm ⟨dst, .binOp .sub t x y yt, type, pos, after, guard⟩
  | _, _ => lpD P tm ⟨dst, .binOp .sub t x y yt, type, pos, after, guard⟩) := by
  split
  · rename_i k a k' b hx hy
    split
    · rename_i hk
      subst hk
      exact lp_of (h := ⟨0, []⟩) hx hy (lop_sub hx hy)
    · rfl
  · rfl
theorem sp_not : lpure P tm ⟨dst, .unOp .not t x, type, pos, after, guard⟩ = (match evl tm x with
  | some (.bool z) => some (.bool !z, [])
  | _ => lpD P tm ⟨dst, .unOp .not t x, type, pos, after, guard⟩) := by
  split
  · rename_i z hx
    exact lop_not (h := ⟨0, []⟩) hx
  · rfl
end
/-- A region, its operations told as a list: a rest that has a name of its own is left alone by simp. -/
theorem CodeR.regionL {P : Program} {ops : Array Oper} {id : Nat} {tm : List Value} {h : HP} {Q : Exit → List Value → HP → Prop} (s : List Nat) (hs : List.range ops.size = s) (hx : OpR P ops [] false [] h s tm h (fun t g => Q .normal t g)) : CodeR P (.region id ops false) tm h Q := CodeR.region (by rw [hs]; exact hx)
end Go.Proofs.YteeanpfhngoobaaGreat.Xk
