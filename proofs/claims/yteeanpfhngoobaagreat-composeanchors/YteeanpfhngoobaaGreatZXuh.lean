/- Both make the same. -/
import Derived.Test.YteeanpfhngoobaaGreatZXug
set_option linter.all false
set_option maxRecDepth 100000
namespace Go.Proofs.YteeanpfhngoobaaGreat.Xk
open Go.RowKit

theorem go_rel (D K : Int) : ∀ (l : List Ev) (s : CS) (p : PS) (st : List Nat) (i : Nat), Rel s p D K → Good st p i → (∃ x, rn st l = some x) → (∀ e ∈ l, cleanP e = true) →
    (goC D K l s).1 = (goP D K l p).1 ∧ ((goC D K l s).1 = 0 → (goC D K l s).2.N = (goP D K l p).2.N ∧ (goC D K l s).2.R = (goP D K l p).2.R ∧ ∃ st', Good st' (goP D K l p).2 (i + 3 * l.length))
  | [], s, p, st, i, hr, hg, hx, hc => ⟨rfl, fun _ => ⟨hr.N, hr.R, st, hg⟩⟩
  | e :: l, s, p, st, i, hr, hg, ⟨x, hx⟩, hc => by
    have hx' : (match stp st e.k with | none => none | some s' => rn s' l) = some x := hx
    cases hs : stp st e.k with
    | none => rw [hs] at hx'; cases hx'
    | some st' =>
      rw [hs] at hx'
      obtain ⟨t1, t2⟩ := stepC_take hr (hc e (by simp)) hg.it
      by_cases h0 : (takeP D K p e).1 = 0
      · have h0' : (stepC D K s e).1 = 0 := t1.trans h0
        have e1 : goC D K (e :: l) s = goC D K l (stepC D K s e).2 := if_pos h0'
        have e2 : goP D K (e :: l) p = goP D K l (takeP D K p e).2 := if_pos h0
        rw [e1, e2]
        obtain ⟨r1, r2⟩ := go_rel D K l _ _ st' (i + 3) (t2 h0') (take_good hg hs h0) ⟨x, hx'⟩ (fun y hy => hc y (by simp [hy]))
        refine ⟨r1, fun h => ?_⟩
        obtain ⟨r3, r4, st2, r5⟩ := r2 h
        refine ⟨r3, r4, st2, ?_⟩
        rw [show i + 3 * (e :: l).length = i + 3 + 3 * l.length by simp; omega]
        exact r5
      · have h0' : ¬ (stepC D K s e).1 = 0 := fun h => h0 (t1.symm.trans h)
        have e1 : goC D K (e :: l) s = ((stepC D K s e).1, s) := if_neg h0'
        have e2 : goP D K (e :: l) p = ((takeP D K p e).1, p) := if_neg h0
        rw [e1, e2]
        exact ⟨t1, fun h => absurd h h0'⟩
theorem comp_graph (L : List Ev) (depth nodes : Int) : compP L depth nodes = graphP L depth nodes ∧ (graphP L depth nodes).2.2.length ≤ 3 * L.length ∧ ∀ y ∈ (graphP L depth nodes).2.1, y.kids.length ≤ 3 * L.length := by
  unfold compP graphP
  cases hr : rightP L with
  | false => simp
  | true =>
    simp only [if_true]
    have hD0 : 0 ≤ cutP depth 200 := by unfold cutP; repeat' split <;> omega
    have hK0 : 0 ≤ cutP nodes 20000 := by unfold cutP; repeat' split <;> omega
    generalize cutP depth 200 = D at hD0 ⊢
    generalize cutP nodes 20000 = K at hK0 ⊢
    obtain ⟨q1, q2⟩ := (rightP_iff L).1 hr
    obtain ⟨r1, r2⟩ := go_rel D K L ⟨[], [], [], []⟩ ps0 [0] 0 ⟨rfl, rfl, rfl, fun a => rfl, hD0, hK0⟩ Good.start ⟨_, q2⟩ (fun e he => List.all_eq_true.1 q1 e he)
    have e0 : (⟨[], [], [], []⟩ : PS) = ps0 := rfl
    rw [e0, r1]
    by_cases h0 : (goP D K L ps0).1 = 0
    · obtain ⟨r3, r4, st, r5⟩ := r2 (r1.trans h0)
      rw [if_pos h0, if_pos h0, r3, r4]
      refine ⟨rfl, ?_, fun y hy => ?_⟩
      · have := r5.bd.r
        simpa using this
      · have := r5.bd.k y hy
        simpa using this
    · rw [if_neg h0, if_neg h0]
      simp
theorem graphP_len (L : List Ev) (depth nodes : Int) : (graphP L depth nodes).2.1.length ≤ 3 * L.length := by
  unfold graphP
  cases hr : rightP L with
  | false => simp
  | true =>
    simp only [if_true]
    have hD0 : 0 ≤ cutP depth 200 := by unfold cutP; repeat' split <;> omega
    have hK0 : 0 ≤ cutP nodes 20000 := by unfold cutP; repeat' split <;> omega
    generalize cutP depth 200 = D at hD0 ⊢
    generalize cutP nodes 20000 = K at hK0 ⊢
    obtain ⟨q1, q2⟩ := (rightP_iff L).1 hr
    obtain ⟨r1, r2⟩ := go_rel D K L ⟨[], [], [], []⟩ ps0 [0] 0 ⟨rfl, rfl, rfl, fun a => rfl, hD0, hK0⟩ Good.start ⟨_, q2⟩ (fun e he => List.all_eq_true.1 q1 e he)
    have e0 : (⟨[], [], [], []⟩ : PS) = ps0 := rfl
    rw [e0]
    by_cases h0 : (goP D K L ps0).1 = 0
    · obtain ⟨r3, r4, st, r5⟩ := r2 (r1.trans h0)
      rw [if_pos h0]
      have := r5.bd.n
      simpa using this
    · rw [if_neg h0]
      simp
end Go.Proofs.YteeanpfhngoobaaGreat.Xk
