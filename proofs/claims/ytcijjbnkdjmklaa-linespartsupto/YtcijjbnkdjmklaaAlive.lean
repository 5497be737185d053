/- The document's example holds: alive answers true. How a list of lines is read. -/
import Derived.Test.YtcijjbnkdjmklaaRead
set_option linter.unusedVariables false
set_option linter.unusedSimpArgs false
namespace Go.Proofs.Ytcijjbnkdjmklaa
open Go.RowKit Go.Shelf

theorem is_of_row {w : World} {base n : Nat} {a : Option Addr} {k c : Nat} {l : List Int} (h : w.ownsRow base 3 1 (.slice a k c) n (l.map (.int .i64))) : Is w a l ∧ k = l.length ∧ k ≤ c ∧ c ≤ maxLen := by
  have hl : l.length = n := by have := h.1; simpa using this
  have h' := h
  obtain ⟨-, ⟨e, e2⟩ | ⟨g, cap, cur, e, hb, hg, h1, h2, h3, h4⟩⟩ := h'
  · cases e
    exact ⟨.inl (List.eq_nil_of_length_eq_zero (by omega)), by omega, by omega, by unfold maxLen; omega⟩
  · cases e
    refine ⟨.inr ⟨g, 0, rfl, fun j hj => ?_⟩, by omega, h1, h2⟩
    have := h.cells (g := g) rfl j (.int .i64 (iAt l j)) (by simp [iAt, hj])
    rw [add_plain] at this
    exact this

/-- A list of lines, as it is read: at a, of k lines. -/
def Ls (w : World) (a : Option Addr) (xs : List (Nat × List Int)) : Prop :=
  0 < xs.length → ∃ g o, a = some ⟨g, o, none⟩ ∧ ∀ j x, xs[j]? = some x → w.cell? ⟨g, o + j * 2, none⟩ = some (.int .i64 x.1) ∧ ∃ q c', w.cell? ⟨g, o + j * 2 + 1, none⟩ = some (.slice q x.2.length c') ∧ Is w q x.2

theorem Rws.read {w : World} {base : Nat} {v : Value} {xs : List (Nat × List Int)} (h : Rws w base v xs) : ∃ a c, v = .slice a xs.length c ∧ xs.length ≤ c ∧ c ≤ maxLen ∧ Ls w a xs ∧ ∀ x, a = some x → base ≤ x.block := by
  obtain ⟨cells, h1, h2⟩ := h
  have h1' := h1
  obtain ⟨hlen, ⟨rfl, e2⟩ | ⟨g, cap, cur, rfl, hb, hg, k1, k2, k3, k4⟩⟩ := h1'
  · exact ⟨none, 0, by rw [e2], by omega, by unfold maxLen; omega, (fun h => by omega), fun x e => by cases e⟩
  · refine ⟨_, cap, rfl, k1, k2, fun _ => ⟨g, 0, rfl, fun j x hx => ?_⟩, fun x e => by cases e; exact hb⟩
    obtain ⟨a1, t, a2, a3⟩ := h2 j x hx
    obtain ⟨ta, tk, tc, rfl⟩ := ownsRow_form a3
    obtain ⟨i1, i2, i3, i4⟩ := is_of_row a3
    subst i2
    have q1 := h1.cells (g := g) rfl _ _ a1
    have q2 := h1.cells (g := g) rfl _ _ a2
    rw [add_plain] at q1 q2
    refine ⟨?_, ta, tc, ?_, i1⟩
    · rw [Nat.mul_comm]; exact q1
    · rw [Nat.mul_comm j 2, Nat.add_assoc]; exact q2

theorem Ls.on {A B : World} {a : Option Addr} {xs : List (Nat × List Int)} (h : Ls A a xs) (hb : Below A.heap.size A B) : Ls B a xs := by
  intro hl
  obtain ⟨g, o, e, hc⟩ := h hl
  refine ⟨g, o, e, fun j x hx => ?_⟩
  obtain ⟨c1, q, c', c2, c3⟩ := hc j x hx
  exact ⟨(hb.cell (p := ⟨g, o + j * 2, none⟩) (World.block_lt_of_cell? A _ c1)).trans c1, q, c', (hb.cell (p := ⟨g, o + j * 2 + 1, none⟩) (World.block_lt_of_cell? A _ c2)).trans c2, c3.on hb⟩

theorem lines_alive : linesP [97, 13, 10] = [(0, [97])] ∧ [97, 13, 10].any badP = false := by
  constructor
  · unfold linesP
    rw [cuts_more (l := [97, 13, 10]) (k := 0) (s := 1) (by decide) (by decide) (by decide), cuts_end (by decide)]
    decide
  · decide

theorem is_of_block {W : World} {b : Nat} {l : List Int} {f : Nat × Nat} (h : W.heap[b]? = some (.cells (l.map (Value.int .i64)).toArray 3 f)) : Is W (some ⟨b, 0, none⟩) l := by
  refine .inr ⟨b, 0, rfl, fun j hj => ?_⟩
  simp [World.cell?, h, hj, iAt]

theorem read_alive (w : World) :
    Calls Try.prog 8 #[.slice (some ⟨w.heap.size, 0, none⟩) 3 3] (w.alloc (.cells #[.int .i64 97, .int .i64 13, .int .i64 10] 3)) fun e w' => ∃ g cap q c', e = .returned (.tuple #[.slice (some ⟨g, 0, none⟩) 1 cap, .int .i64 0]) ∧ w'.cell? ⟨g, 1, none⟩ = some (.slice q 1 c') ∧ Below w.heap.size w w' := by
  have := Read_any (some ⟨w.heap.size, 0, none⟩) [97, 13, 10] 3 (w.alloc (.cells #[.int .i64 97, .int .i64 13, .int .i64 10] 3)) (by decide) (by unfold maxLen; omega) (by decide) (is_of_block (World.alloc_heap_new w _))
  rw [lines_alive.2, lines_alive.1] at this
  refine this.mono ?_
  rintro e w' ⟨v, rfl, hb, hr⟩
  obtain ⟨a, c, rfl, -, -, hL, -⟩ := hr.read
  obtain ⟨cells, h1, -⟩ := hr
  obtain ⟨g, cap, e⟩ := ownsRow_succ (k := 0) h1
  cases e
  obtain ⟨g', o', e, hc⟩ := hL (by simp)
  cases e
  obtain ⟨-, q, c', c2, -⟩ := hc 0 (0, [97]) rfl
  exact ⟨g, _, q, c', rfl, by simpa using c2, ((Below.refl _ w).alloc (Nat.le_refl _) _).trans (hb.mono (by simp))⟩

set_option maxRecDepth 100000 in
set_option maxHeartbeats 400000 in
theorem alive_any (w : World) : Calls Try.prog 7 #[] w fun e w' => e = .returned (.bool true) ∧ Below w.heap.size w w' := by
  have PA := read_alive w
  go_enter Try.func7, Try.ntmps7
  go_wp2_with fail
  refine PA.mono ?_
  clear PA
  rintro e w' ⟨g, cap, q, c', rfl, hc, hb⟩
  go_wp2_with (go_at_call 10; refine (num_any _ _).mono ?_; rintro e w' ⟨rfl, rfl⟩)
  go_ret
  exact ⟨rfl, hb⟩
end Go.Proofs.Ytcijjbnkdjmklaa
