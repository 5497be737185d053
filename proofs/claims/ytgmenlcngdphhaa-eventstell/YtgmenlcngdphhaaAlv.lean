/- alive; how an argument that is a slice of events is opened; EventsTell's walk. -/
import Derived.Test.YtgmenlcngdphhaaRrt
import Derived.Test.YtgmenlcngdphhaaOpn
import Derived.WalkKit
import Derived.ProofKit
import Derived.OpenShut
import Derived.ChangeOld
import Derived.Below
import Derived.Deep.Slices
set_option linter.unusedVariables false
set_option linter.unusedSimpArgs false
namespace Go.Proofs.Ytgmenlcngdphhaa
open Go.ChangeShapes Go.WideShapes Go.ChangeAt Go.RowKit Go.Shelf

theorem own : ownKnob Try.prog.godebug = none := by kernel_rfl
theorem laidOut : laidOutB Try.prog = true := by kernel_rfl

/-- The cells of events, one behind the other. -/
def flat : List Ev → List Value
  | [] => []
  | x :: t => x.c ++ flat t
theorem flat_len : ∀ L : List Ev, (flat L).length = L.length * 6 := by
  intro L
  induction L with
  | nil => rfl
  | cons x L ih => rw [flat, List.length_append, ih]; simp [Ev.c]; omega
theorem flat_app : ∀ A B : List Ev, flat (A ++ B) = flat A ++ flat B := by
  intro A
  induction A with
  | nil => intro B; rfl
  | cons x A ih => intro B; rw [List.cons_append, flat, flat, ih, List.append_assoc]
theorem flat_at : ∀ (L : List Ev) (j : Nat) (x : Ev), L[j]? = some x → ∀ i, i < 6 → (flat L)[j * 6 + i]? = x.c[i]? := by
  intro L
  induction L with
  | nil => intro j x h; cases h
  | cons y L ih =>
    intro j x h i hi
    cases j with
    | zero =>
      cases h
      rw [flat, List.getElem?_append_left (by simp [Ev.c]; omega)]
      simp
    | succ j =>
      rw [flat, List.getElem?_append_right (by simp [Ev.c]; omega)]
      have := ih j x (by simpa using h) i hi
      rw [← this]
      congr 1
      simp [Ev.c]
      omega
/-- Cells that read so are events. -/
theorem es_of {w : World} {b o : Nat} {L : List Ev} (h : ∀ (j : Nat) (v : Value), (flat L)[j]? = some v → w.cell? ⟨b, o + j, none⟩ = some v) : Es w (some ⟨b, o, none⟩) L := by
  refine .inr ⟨b, o, rfl, fun j x hx => ?_⟩
  have g : ∀ i v, x.c[i]? = some v → w.cell? ⟨b, o + j * 6 + i, none⟩ = some v := fun i v hv => by
    have hi : i < 6 := by have := (List.getElem?_eq_some_iff.1 hv).1; simpa [Ev.c] using this
    rw [Nat.add_assoc]
    exact h _ v (by rw [flat_at L j x hx i hi]; exact hv)
  exact ⟨g 0 _ rfl, g 1 _ rfl, g 2 _ rfl, g 3 _ rfl, g 4 _ rfl, g 5 _ rfl⟩
theorem es_new (w : World) (L : List Ev) (cs : Array Value) (h : cs.toList = flat L) : Es (w.alloc (.cells cs 30)) (some ⟨w.heap.size, 0, none⟩) L := by
  refine es_of fun j v hj => ?_
  have h0 := World.alloc_heap_new w (.cells cs 30)
  show (match (w.alloc (.cells cs 30)).heap[w.heap.size]? with | some (.cells c _ _) => c[0 + j]? | _ => none) = _
  rw [h0]
  simp only [Nat.zero_add]
  rw [← h] at hj
  simpa using hj
theorem rn_alive : rightP [ev0 1] = false ∧ rightP [ev0 1, ⟨7, ⟨#[]⟩, ⟨#[]⟩, ⟨#[]⟩, 1, false⟩, ev0 2] = true := by
  constructor
  · rw [Bool.eq_false_iff]
    intro h
    have h := ((rightP_iff _).1 h).2
    have e : rn [0] [ev0 1] = some [1] := rfl
    rw [e] at h
    cases h
  · exact (rightP_iff _).2 ⟨by simp [cleanP, ev0, none_text], rfl⟩

set_option maxRecDepth 100000 in
set_option maxHeartbeats 2000000 in
theorem alive_any (w : World) : Calls Try.prog 6 #[] w fun e w' => e = .returned (.bool true) ∧ Below w.heap.size w w' := by
  have R1 := Right_any none [] 0 0 w rfl (by simp) (.inl rfl)
  rw [show rightP [] = true from rfl] at R1
  have R2 := fun (W : World) => Right_any (some ⟨W.heap.size, 0, none⟩) [ev0 1] 1 1 (W.alloc (.cells #[.int .i64 1, .string ⟨#[]⟩, .string ⟨#[]⟩, .string ⟨#[]⟩, .int .i64 0, .bool false] 30)) rfl (by simp) (es_new W _ _ rfl)
  have R3 := fun (W : World) => Right_any (some ⟨W.heap.size, 0, none⟩) [ev0 1, ⟨7, ⟨#[]⟩, ⟨#[]⟩, ⟨#[]⟩, 1, false⟩, ev0 2] 3 3 (W.alloc (.cells #[.int .i64 1, .string ⟨#[]⟩, .string ⟨#[]⟩, .string ⟨#[]⟩, .int .i64 0, .bool false, .int .i64 7, .string ⟨#[]⟩, .string ⟨#[]⟩, .string ⟨#[]⟩, .int .i64 1, .bool false, .int .i64 2, .string ⟨#[]⟩, .string ⟨#[]⟩, .string ⟨#[]⟩, .int .i64 0, .bool false] 30)) rfl (by simp) (es_new W _ _ rfl)
  rw [rn_alive.1] at R2
  rw [rn_alive.2] at R3
  have R2 : Hid _ := R2
  have R3 : Hid _ := R3
  go_enter Try.func6, Try.ntmps6
  go_wp2_with (first | (go_at_call 8; refine R1.mono ?_; clear R1; rintro e W1 ⟨rfl, hB1⟩; have S2 := R2.out W1; clear R2) | (go_at_call 8; refine S2.mono ?_; clear S2; rintro e W2 ⟨rfl, hB2⟩; have S3 := R3.out W2; clear R3) | (go_at_call 8; refine S3.mono ?_; clear S3; rintro e W3 ⟨rfl, hB3⟩))
  go_ret
  refine ⟨rfl, ?_⟩
  have h2 : Below W1.heap.size W1 W2 := ((Below.refl _ W1).alloc (Nat.le_refl _) _).trans (hB2.mono (by simp))
  have h3 : Below W2.heap.size W2 W3 := ((Below.refl _ W2).alloc (Nat.le_refl _) _).trans (hB3.mono (by simp))
  exact (hB1.trans (h2.mono hB1.size)).trans (h3.mono (Nat.le_trans hB1.size h2.size))

end Go.Proofs.Ytgmenlcngdphhaa
