/- alive; how an argument that is a slice of events is opened; EventsTell's walk. -/
import Derived.Test.YteeanpfhngoobaaGreatZRrt
import Derived.Test.YteeanpfhngoobaaGreatZOpn
import Derived.WalkKit
import Derived.ProofKit
import Derived.OpenShut
import Derived.ChangeOld
import Derived.Below
import Derived.Deep.Slices
set_option linter.unusedVariables false
set_option linter.unusedSimpArgs false
set_option maxRecDepth 100000
namespace Go.Proofs.YteeanpfhngoobaaGreat
open Go.ChangeShapes Go.WideShapes Go.ChangeAt Go.RowKit Go.Shelf

theorem own : ownKnob Tryz.prog.godebug = none := by kernel_rfl
theorem laidOut : laidOutB Tryz.prog = true := by kernel_rfl

/-- The cells of events, one behind the other. -/
def flat : List Ev → List Value
  | [] => []
  | x :: t => x.c ++ flat t
theorem flat_len : ∀ L : List Ev, (flat L).length = L.length * 6 := by
  intro L
  induction L with
  | nil => rfl
  | cons x L ih => rw [flat, List.length_append, ih]; simp [Ev.c]; omega
theorem flat_app : ∀ A B : List Ev, flat (A ++ B) = flat A ++ flat B := by
  intro A
  induction A with
  | nil => intro B; rfl
  | cons x A ih => intro B; rw [List.cons_append, flat, flat, ih, List.append_assoc]
theorem flat_at : ∀ (L : List Ev) (j : Nat) (x : Ev), L[j]? = some x → ∀ i, i < 6 → (flat L)[j * 6 + i]? = x.c[i]? := by
  intro L
  induction L with
  | nil => intro j x h; cases h
  | cons y L ih =>
    intro j x h i hi
    cases j with
    | zero =>
      cases h
      rw [flat, List.getElem?_append_left (by simp [Ev.c]; omega)]
      simp
    | succ j =>
      rw [flat, List.getElem?_append_right (by simp [Ev.c]; omega)]
      have := ih j x (by simpa using h) i hi
      rw [← this]
      congr 1
      simp [Ev.c]
      omega
/-- Cells that read so are events. -/
theorem es_of {w : World} {b o : Nat} {L : List Ev} (h : ∀ (j : Nat) (v : Value), (flat L)[j]? = some v → w.cell? ⟨b, o + j, none⟩ = some v) : Es w (some ⟨b, o, none⟩) L := by
  refine .inr ⟨b, o, rfl, fun j x hx => ?_⟩
  have g : ∀ i v, x.c[i]? = some v → w.cell? ⟨b, o + j * 6 + i, none⟩ = some v := fun i v hv => by
    have hi : i < 6 := by have := (List.getElem?_eq_some_iff.1 hv).1; simpa [Ev.c] using this
    rw [Nat.add_assoc]
    exact h _ v (by rw [flat_at L j x hx i hi]; exact hv)
  exact ⟨g 0 _ rfl, g 1 _ rfl, g 2 _ rfl, g 3 _ rfl, g 4 _ rfl, g 5 _ rfl⟩
theorem es_new (w : World) (L : List Ev) (cs : Array Value) (h : cs.toList = flat L) : Es (w.alloc (.cells cs 46)) (some ⟨w.heap.size, 0, none⟩) L := by
  refine es_of fun j v hj => ?_
  have h0 := World.alloc_heap_new w (.cells cs 46)
  show (match (w.alloc (.cells cs 46)).heap[w.heap.size]? with | some (.cells c _ _) => c[0 + j]? | _ => none) = _
  rw [h0]
  simp only [Nat.zero_add]
  rw [← h] at hj
  simpa using hj
theorem rn_alive : rightP [ev0 1] = false ∧ rightP [ev0 1, ⟨7, ⟨#[]⟩, ⟨#[]⟩, ⟨#[]⟩, 1, false⟩, ev0 2] = true := by
  constructor
  · rw [Bool.eq_false_iff]
    intro h
    have h := ((rightP_iff _).1 h).2
    have e : rn [0] [ev0 1] = some [1] := rfl
    rw [e] at h
    cases h
  · exact (rightP_iff _).2 ⟨by simp [cleanP, ev0, none_text], rfl⟩

end Go.Proofs.YteeanpfhngoobaaGreat
