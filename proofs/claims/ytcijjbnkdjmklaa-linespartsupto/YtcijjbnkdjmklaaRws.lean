/- A list of lines in memory of the call's own: a row of pairs, each one's text in a block of its own. -/
import Derived.Test.YtcijjbnkdjmklaaIter
set_option linter.unusedVariables false
set_option linter.unusedSimpArgs false
namespace Go.Proofs.Ytcijjbnkdjmklaa
open Go.RowKit Go.Shelf

theorem Try.info34 : (Try.prog.info? 34).map (fun i => (i.zero, i.size, i.bytes)) = some (some (.agg #[.int .i64 0, .slice none 0 0]), 2, 32) := by kernel_rfl

def Rws (w : World) (base : Nat) (v : Value) (xs : List (Nat × List Int)) : Prop :=
  ∃ cells, w.ownsRow base 34 2 v xs.length cells ∧ ∀ j x, xs[j]? = some x → cells[2 * j]? = some (.int .i64 x.1) ∧ ∃ t, cells[2 * j + 1]? = some t ∧ w.ownsRow base 3 1 t x.2.length (x.2.map (.int .i64))

theorem Rws_nil (w : World) (base : Nat) : Rws w base (.slice none 0 0) [] := ⟨[], World.ownsRow_nil _ _ _ _, fun j x h => by simp at h⟩

theorem ownsRow_block {w w' : World} {base : Nat} {e : TypeId} {size : Nat} {v : Value} {n : Nat} {xs : List Value} (h : w.ownsRow base e size v n xs)
    (hk : ∀ g, v.ownBlock = some g → base ≤ g → (∃ cur f, w.heap[g]? = some (.cells cur e f)) → w'.heap[g]? = w.heap[g]?) : w'.ownsRow base e size v n xs := by
  obtain ⟨h1, h2 | ⟨g, cap, cur, rfl, hg, hc, rest⟩⟩ := h
  · exact ⟨h1, .inl h2⟩
  · exact ⟨h1, .inr ⟨g, cap, cur, rfl, hg, (hk g rfl hg ⟨cur, _, hc⟩).trans hc, rest⟩⟩

theorem Rws.blocks {w w' : World} {base : Nat} {v : Value} {xs : List (Nat × List Int)} (h : Rws w base v xs)
    (hk : ∀ g, base ≤ g → (∃ cur e f, w.heap[g]? = some (.cells cur e f)) → w'.heap[g]? = w.heap[g]?) : Rws w' base v xs := by
  obtain ⟨cells, h1, h2⟩ := h
  refine ⟨cells, ownsRow_block h1 fun g _ hb ⟨cur, f, hc⟩ => hk g hb ⟨cur, _, f, hc⟩, fun j x hx => ?_⟩
  obtain ⟨a, t, b, c⟩ := h2 j x hx
  exact ⟨a, t, b, ownsRow_block c fun g _ hb ⟨cur, f, hc⟩ => hk g hb ⟨cur, _, f, hc⟩⟩

theorem Rws.mono {w : World} {base base' : Nat} {v : Value} {xs : List (Nat × List Int)} (h : Rws w base v xs) (hb : base' ≤ base) : Rws w base' v xs := by
  obtain ⟨cells, h1, h2⟩ := h
  refine ⟨cells, ownsRow_mono h1 hb, fun j x hx => ?_⟩
  obtain ⟨a, t, b, c⟩ := h2 j x hx
  exact ⟨a, t, b, ownsRow_mono c hb⟩

theorem Rws.on {w w' : World} {base : Nat} {v : Value} {xs : List (Nat × List Int)} (h : Rws w base v xs) (hb : Below w.heap.size w w') : Rws w' base v xs :=
  h.blocks fun g _ ⟨cur, e, f, hc⟩ => hb.block g (Array.getElem?_eq_some_iff.1 hc).1

theorem Rws.form {w : World} {base : Nat} {v : Value} {xs : List (Nat × List Int)} (h : Rws w base v xs) : ∃ a k c, v = .slice a k c := by
  obtain ⟨cells, h1, -⟩ := h
  exact ownsRow_form h1

/-- One line more: the text was made (W to W1), a block for the pair (tmp), the row grew (w1). -/
theorem rws_step {W W1 w1 : World} {base : Nat} {v v' u : Value} {xs : List (Nat × List Int)} {cells : List Value} {x : Nat × List Int} {tmp : Obj}
    (h1 : W.ownsRow base 34 2 v xs.length cells)
    (h2 : ∀ j x, xs[j]? = some x → cells[2 * j]? = some (.int .i64 x.1) ∧ ∃ t, cells[2 * j + 1]? = some t ∧ W.ownsRow base 3 1 t x.2.length (x.2.map (.int .i64)))
    (hb : base ≤ W.heap.size) (hc : Copied W x.2 W1 u) (hg : (W1.alloc tmp).grownBy w1 v.ownBlock) (hown : w1.ownsRow base 34 2 v' (xs.length + 1) (cells ++ [.int .i64 x.1, u])) :
    Rws w1 base v' (xs ++ [x]) := by
  have hlen : cells.length = xs.length * 2 := h1.1
  have hvlt : ∀ g, v.ownBlock = some g → g < W.heap.size := fun g e => (h1.lt g e).2
  have hv34 : ∀ g, v.ownBlock = some g → ∃ cur, W.heap[g]? = some (.cells cur 34 (0, 0)) := by
    intro g e
    obtain ⟨-, ⟨rfl, -⟩ | ⟨g', cap, cur, rfl, -, hh, -⟩⟩ := h1
    · cases e
    · cases e; exact ⟨cur, hh⟩
  have hold : ∀ g, g < W.heap.size → some g ≠ v.ownBlock → w1.heap[g]? = W.heap[g]? := by
    intro g hlt hne
    have hs := hc.2.size
    rw [hg.block g (by simp; omega) hne, Below.heap_alloc W1 tmp g (by omega), hc.2.block g hlt]
  refine ⟨cells ++ [.int .i64 x.1, u], by simpa using hown, fun j y hy => ?_⟩
  by_cases hj : j < xs.length
  · rw [List.getElem?_append_left hj] at hy
    obtain ⟨a, t, b, c⟩ := h2 j y hy
    refine ⟨by rw [List.getElem?_append_left (by omega)]; exact a, t, by rw [List.getElem?_append_left (by omega)]; exact b, ownsRow_block c fun g e _ ⟨cur, f, hh⟩ => hold g (Array.getElem?_eq_some_iff.1 hh).1 fun e' => ?_⟩
    obtain ⟨cur', h34⟩ := hv34 g e'.symm
    rw [h34] at hh
    cases hh
  · have hj' : j = xs.length := by
      have := (List.getElem?_eq_some_iff.1 hy).1
      simp at this
      omega
    subst hj'
    simp at hy
    subst hy
    refine ⟨by rw [List.getElem?_append_right (by omega)]; simp [hlen, Nat.mul_comm], u, ?_, ?_⟩
    · rw [List.getElem?_append_right (by omega)]
      have : 2 * xs.length + 1 - cells.length = 1 := by omega
      rw [this]; rfl
    · refine ownsRow_mono (ownsRow_block (w := W1) hc.1 fun g e hbg ⟨cur, f, hh⟩ => ?_) hb
      have hlt1 := (Array.getElem?_eq_some_iff.1 hh).1
      rw [hg.block g (by simp; omega) (fun e' => by have := hvlt g e'.symm; omega), Below.heap_alloc W1 tmp g hlt1]
end Go.Proofs.Ytcijjbnkdjmklaa
