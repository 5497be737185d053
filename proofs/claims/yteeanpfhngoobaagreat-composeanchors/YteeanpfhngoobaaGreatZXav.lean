/- alive: the document's example, whole. -/
import Derived.Test.YteeanpfhngoobaaGreatZXrt
import Derived.Test.YteeanpfhngoobaaGreatZXex
set_option linter.all false
set_option maxRecDepth 100000
namespace Go.Proofs.YteeanpfhngoobaaGreat.Xk
open Go.RowKit

def alMore : List Nat := [7, 9, 11, 20, 21, 36, 37, 38, 39, 40, 63, 64, 65, 66, 67, 68]
def alFs : List Nat := exFs ++ alMore
def alTab : List (Nat × List (Nat × List Nat × List Nat)) := exTab ++ [(37, [(4, List.range 13, [12])]), (38, [(1, [0, 1, 2, 4, 5, 6, 7, 3, 8], [])]), (39, [(2, List.range 15, [14])]), (63, [(2, List.range 13, [])]), (67, [(1, List.range 12, [])])]
theorem al_more : (alMore.all (fnOk Tryz.prog alTab)) = true := by kernel_rfl
theorem al_look {k : Nat} (hk : k ∈ exFs) : lookT alTab k = lookT exTab k := by
  have h : exFs.all (fun k => (exTab.lookup k).isSome || (alTab.lookup k).isNone) = true := by kernel_rfl
  have := List.all_eq_true.1 h k hk
  unfold lookT
  funext id
  cases he : exTab.lookup k with
  | some l => rw [show alTab.lookup k = some l by unfold alTab; rw [List.lookup_append, he]; rfl]
  | none =>
    rw [he] at this
    rw [show alTab.lookup k = none by simpa using this]
theorem al_fns : Fns Tryz.prog (FX Tryz.prog alFs) (lookT alTab) := fun k fn hk => by
  by_cases he : k ∈ exFs
  · have : FX Tryz.prog exFs k = some fn := by
      unfold FX at hk ⊢
      rw [if_pos (by simpa using he)]
      split at hk
      · exact hk
      · cases hk
    rw [al_look he]
    exact ex_fns k fn this
  · have : FX Tryz.prog alMore k = some fn := by
      unfold FX at hk ⊢
      split at hk
      · rename_i hc
        have : k ∈ alFs := by simpa using hc
        rcases List.mem_append.1 this with h | h
        · exact absurd h he
        · rw [if_pos (by simpa using h)]
          exact hk
      · cases hk
    exact fx_fns (fun k hk => List.all_eq_true.1 al_more k hk) k fn this
def alC (P : Program) (O : Nat → List Value → HP → Option (Value × HP)) (k : Nat) (vs : List Value) (h : HP) : Option (Value × HP) := xcall P (FX P alFs) (lookT alTab) O 100000 60 k vs h
theorem alC_ok {O : Nat → List Value → HP → Option (Value × HP)} (hO : HC Tryz.prog O) : HC Tryz.prog (alC Tryz.prog O) := xcall_ok al_fns fx_any hO 100000 60
def alO : Nat → List Value → HP → Option (Value × HP) := orElse exO rightO
theorem alO_ok : HC Tryz.prog alO := orElse_ok exO_ok rightO_ok
def isTrue (r : Option (Value × HP)) : Bool := match r with | some (.bool true, _) => true | _ => false
theorem alive_reckoned : isTrue (alC Tryz.prog alO 7 [] ⟨0, []⟩) = true := by kernel_rfl
/-- The document's example. -/
theorem alive_any (w : World) : Calls Tryz.prog 7 #[] w fun e w' => e = .returned (.bool true) ∧ Below w.heap.size w w' := by
  have hx := alive_reckoned
  unfold isTrue at hx
  split at hx
  · rename_i h hv
    refine ((alC_ok alO_ok 7 _ _ _ h hv).2 w.heap.size w _ w (WR.none w) (fun u hu => by cases hu)).mono fun e w' ⟨m', _, _, e1, e2, e3⟩ => ?_
    exact ⟨e1, e3.bel⟩
  · cases hx
end Go.Proofs.YteeanpfhngoobaaGreat.Xk
