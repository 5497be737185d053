/- The document's reach, in plain terms and as it runs. -/
import Derived.Test.YtjfeamfchgcblaaDoorGrs
set_option linter.all false
set_option maxRecDepth 100000
namespace Go.Proofs.YtjfeamfchgcblaaDoor
open Go.RowKit

def kdN (G : List Gn) (k : Int) : List Int := (gAt G k.toNat).kids
def snAt (S : List Bool) (k : Int) : Bool := S[k.toNat]?.getD false
/-- How much is left to be looked at. -/
def left (G : List Gn) (S : List Bool) : Nat := ((List.range S.length).map fun k => if S[k]?.getD false = true then 0 else 1 + (gAt G k).kids.length).sum
def rcF (G : List Gn) : Nat → List Bool → List Int → List Int
  | 0, _, _ => []
  | _ + 1, _, [] => []
  | f + 1, S, k :: T => if snAt S k = true then rcF G f S T else k :: rcF G f (S.set k.toNat true) (kdN G k ++ T)
def rcM (G : List Gn) (S : List Bool) (T : List Int) : Nat := left G S + T.length
/-- What is met yet, with these on the list of what is to be looked at, the next one first. -/
def rcE (G : List Gn) (S : List Bool) (T : List Int) : List Int := rcF G (rcM G S T) S T
theorem sum_set : ∀ (l : List Nat) (i x : Nat), i < l.length → (l.set i x).sum + l[i]?.getD 0 = l.sum + x
  | [], i, x, h => by simp at h
  | a :: l, 0, x, _ => by simp; omega
  | a :: l, i + 1, x, h => by
    have := sum_set l i x (by simpa using h)
    simp at this ⊢
    omega
theorem left_see (G : List Gn) (S : List Bool) (k : Nat) (hk : k < S.length) (h : S[k]?.getD false = false) : left G (S.set k true) + (1 + (gAt G k).kids.length) = left G S := by
  unfold left
  have e : ((List.range (S.set k true).length).map fun j => if (S.set k true)[j]?.getD false = true then 0 else 1 + (gAt G j).kids.length) = ((List.range S.length).map fun j => if S[j]?.getD false = true then 0 else 1 + (gAt G j).kids.length).set k 0 := by
    apply List.ext_getElem?
    intro j
    rw [List.getElem?_set]
    by_cases hj : j < S.length
    · by_cases hjk : k = j
      · subst hjk
        simp [hk]
      · simp [hj, hjk, List.getElem?_set]
    · have h1 : S.length ≤ j := by omega
      by_cases hjk : k = j
      · omega
      · simp [hjk, h1]
  rw [e]
  have := sum_set ((List.range S.length).map fun j => if S[j]?.getD false = true then 0 else 1 + (gAt G j).kids.length) k 0 (by simpa using hk)
  have h2 : S[k] = false := by simpa [List.getElem?_eq_getElem hk] using h
  simp [hk, h2] at this
  omega
theorem rcF_more (G : List Gn) : ∀ f g S T, (∀ k ∈ T, 0 ≤ k ∧ k.toNat < S.length) → (∀ x ∈ G, ∀ k ∈ x.kids, 0 ≤ k ∧ k.toNat < S.length) → rcM G S T ≤ f → rcM G S T ≤ g → rcF G f S T = rcF G g S T := by
  intro f
  induction f with
  | zero =>
    intro g S T hT hG h1 h2
    cases T with
    | nil => cases g <;> rfl
    | cons k T => unfold rcM at h1; simp at h1
  | succ f ih =>
    intro g S T hT hG h1 h2
    cases T with
    | nil => cases g <;> rfl
    | cons k T =>
      cases g with
      | zero => unfold rcM at h2; simp at h2
      | succ g =>
        rw [rcF, rcF]
        obtain ⟨hk0, hk⟩ := hT k (List.mem_cons_self ..)
        have hT' : ∀ j ∈ T, 0 ≤ j ∧ j.toNat < S.length := fun j hj => hT j (List.mem_cons_of_mem _ hj)
        unfold rcM at h1 h2
        rw [List.length_cons] at h1 h2
        by_cases hs : snAt S k = true
        · rw [if_pos hs, if_pos hs]
          exact ih g S T hT' hG (by unfold rcM; omega) (by unfold rcM; omega)
        · rw [if_neg hs, if_neg hs]
          have hs' : S[k.toNat]?.getD false = false := by unfold snAt at hs; simpa using hs
          have hl := left_see G S k.toNat hk hs'
          have hm : rcM G (S.set k.toNat true) (kdN G k ++ T) + 1 ≤ left G S + T.length := by
            unfold rcM kdN
            rw [List.length_append]
            omega
          rw [ih g _ _ (fun j hj => by
            rw [List.length_set]
            rcases List.mem_append.1 hj with h | h
            · unfold kdN at h
              by_cases hkG : k.toNat < G.length
              · exact hG _ (gAt_mem hkG) j h
              · unfold gAt at h
                rw [List.getElem?_eq_none (by omega)] at h
                cases h
            · exact hT' j h) (by rw [List.length_set]; exact hG) (by omega) (by omega)]
theorem rcE_nil (G : List Gn) (S : List Bool) : rcE G S [] = [] := by
  unfold rcE
  cases rcM G S [] <;> rfl
theorem rcE_seen {G : List Gn} {S : List Bool} {k : Int} {T : List Int} (hT : ∀ j ∈ T, 0 ≤ j ∧ j.toNat < S.length) (hG : ∀ x ∈ G, ∀ k ∈ x.kids, 0 ≤ k ∧ k.toNat < S.length) (hs : snAt S k = true) : rcE G S (k :: T) = rcE G S T := by
  unfold rcE
  have e : rcM G S (k :: T) = rcM G S T + 1 := by unfold rcM; simp; omega
  rw [e, rcF, if_pos hs]
theorem rcE_new {G : List Gn} {S : List Bool} {k : Int} {T : List Int} (hk0 : 0 ≤ k) (hk : k.toNat < S.length) (hT : ∀ j ∈ T, 0 ≤ j ∧ j.toNat < S.length) (hG : ∀ x ∈ G, ∀ k ∈ x.kids, 0 ≤ k ∧ k.toNat < S.length) (hs : snAt S k = false) :
    rcE G S (k :: T) = k :: rcE G (S.set k.toNat true) (kdN G k ++ T) ∧ rcM G (S.set k.toNat true) (kdN G k ++ T) < rcM G S (k :: T) := by
  have hs' : S[k.toNat]?.getD false = false := by unfold snAt at hs; exact hs
  have hl := left_see G S k.toNat hk hs'
  have hm : rcM G (S.set k.toNat true) (kdN G k ++ T) + 1 ≤ left G S + T.length := by
    unfold rcM kdN
    rw [List.length_append]
    omega
  have e : rcM G S (k :: T) = (left G S + T.length) + 1 := by unfold rcM; simp; omega
  refine ⟨?_, by omega⟩
  unfold rcE
  rw [e, rcF, if_neg (by rw [hs]; decide)]
  congr 1
  refine rcF_more G _ _ _ _ (fun j hj => ?_) (by rw [List.length_set]; exact hG) (by omega) (Nat.le_refl _)
  rw [List.length_set]
  rcases List.mem_append.1 hj with h | h
  · unfold kdN at h
    by_cases hkG : k.toNat < G.length
    · exact hG _ (gAt_mem hkG) j h
    · unfold gAt at h
      rw [List.getElem?_eq_none (by omega)] at h
      cases h
  · exact hT j h
end Go.Proofs.YtjfeamfchgcblaaDoor
