/- LinesParts' early ways out. -/
import Derived.Test.YtcijjbnkdjmklaaPartsS
set_option linter.unusedVariables false
set_option linter.unusedSimpArgs false
namespace Go.Proofs.Ytcijjbnkdjmklaa
open Go.RowKit Go.Shelf

set_option maxRecDepth 100000 in
set_option maxHeartbeats 4000000 in
theorem parts_far (p q : Option Addr) (a b : List Int) (c1 c2 : Nat) (which ea eb : Int) (XA XB : List (Nat × List Int)) (w : World) (h1 : Is w p a) (h2 : Is w q b)
    (F1 : ∀ w2, Is w2 p a → Calls Try.prog 9 #[.slice p a.length c1] w2 fun e w' => ∃ v, e = .returned (.tuple #[v, .int .i64 ea]) ∧ Below w2.heap.size w2 w' ∧ Rws w' w2.heap.size v XA)
    (F2 : ∀ w2, Is w2 q b → Calls Try.prog 9 #[.slice q b.length c2] w2 fun e w' => ∃ v, e = .returned (.tuple #[v, .int .i64 eb]) ∧ Below w2.heap.size w2 w' ∧ Rws w' w2.heap.size v XB)
    (h : (300 < (a.length : Int)) ∨ (¬ 300 < (a.length : Int) ∧ 300 < (b.length : Int)) ∨ (¬ 300 < (a.length : Int) ∧ ¬ 300 < (b.length : Int) ∧ (ea != 0) = true) ∨ (¬ 300 < (a.length : Int) ∧ ¬ 300 < (b.length : Int) ∧ (ea != 0) = false ∧ (eb != 0) = true) ∨ (¬ 300 < (a.length : Int) ∧ ¬ 300 < (b.length : Int) ∧ (ea != 0) = false ∧ (eb != 0) = false ∧ which < 0) ∨ (¬ 300 < (a.length : Int) ∧ ¬ 300 < (b.length : Int) ∧ (ea != 0) = false ∧ (eb != 0) = false ∧ ¬ which < 0 ∧ 2 < which)) :
    Calls Try.prog 5 #[.slice p a.length c1, .slice q b.length c2, .int .i64 which] w fun e w' => e = .returned (.bool true) ∧ Below w.heap.size w w' := by
  rcases h with g0 | ⟨g0, g1⟩ | ⟨g0, g1, g2⟩ | ⟨g0, g1, g2, g3⟩ | ⟨g0, g1, g2, g3, g4⟩ | ⟨g0, g1, g2, g3, g4, g5⟩
  all_goals
    go_enter Try.func5, Try.ntmps5
    go_wp2_with (first | (go_at_call 7; refine (alive_any _).mono ?_; rintro e W ⟨rfl, hB⟩; have hIa := h1.on hB) | fail)
    refine (F1 _ hIa).mono ?_
    rintro e W1 ⟨xv, rfl, hb1, hr1⟩
    have hB1 := hB.trans (hb1.mono hB.size)
    have hIb := h2.on hB1
    obtain ⟨xa, xc, rfl, -, -, -, -⟩ := hr1.read
    go_wp2_with fail
    refine (F2 _ hIb).mono ?_
    rintro e W2 ⟨yv, rfl, hb2, hr2⟩
    have hB2 := hB1.trans (hb2.mono hB1.size)
    obtain ⟨ya, yc, rfl, -, -, -, -⟩ := hr2.read
    clear F1 F2 hIa hIb hr1 hr2
    go_wp2
    go_ret
    exact ⟨rfl, hB2⟩
end Go.Proofs.Ytcijjbnkdjmklaa
