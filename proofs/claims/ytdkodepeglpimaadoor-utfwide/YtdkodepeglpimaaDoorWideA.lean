/- Small facts for UtfWide's walk: blocks that stay while a row of bytes grows. -/
import Derived.Test.YtdkodepeglpimaaDoorBytes
set_option linter.unusedVariables false
set_option linter.unusedSimpArgs false
namespace Go.Proofs.YtdkodepeglpimaaDoor
open Go.RowKit Go.Shelf

/-- Block G holds these ints, at its head. -/
def Held (W : World) (G : Nat) (A : List Int) : Prop := ∃ cur, W.heap[G]? = some (.cells cur 3 (0, 0)) ∧ ∀ j, j < A.length → cur[j]? = some (.int .i64 (iAt A j))

theorem Held.cell {W : World} {G : Nat} {A : List Int} (h : Held W G A) (j : Nat) (hj : j < A.length) : W.cell? ⟨G, j, none⟩ = some (.int .i64 (iAt A j)) := by
  obtain ⟨cur, h1, h2⟩ := h
  simp [World.cell?, h1, h2 j hj]
theorem Held.lt {W : World} {G : Nat} {A : List Int} (h : Held W G A) : G < W.heap.size := by
  obtain ⟨cur, h1, h2⟩ := h
  exact (Array.getElem?_eq_some_iff.1 h1).1
theorem Held.kept {W W' : World} {G : Nat} {A : List Int} {row : Option Nat} (h : Held W G A) (hg : W.grownBy W' row) (hne : some G ≠ row) : Held W' G A := by
  have hl := h.lt
  obtain ⟨cur, h1, h2⟩ := h
  exact ⟨cur, (hg.block G hl hne).trans h1, h2⟩
theorem Held.alloc {W : World} {G : Nat} {A : List Int} (h : Held W G A) (o : Obj) : Held (W.alloc o) G A := h.kept (World.grownBy_alloc W o none) (by simp)
theorem Held.new (W : World) (A : List Int) : Held (W.alloc (.cells (A.map (Value.int .i64)).toArray 3)) W.heap.size A := by
  refine ⟨_, World.alloc_heap_new W _, fun j hj => ?_⟩
  unfold iAt
  simp [hj]
theorem Held.not_row {W : World} {G : Nat} {A : List Int} (h : Held W G A) {base size k : Nat} {v : Value} {xs : List Value} (hr : W.ownsRow base 5 size v k xs) : some G ≠ v.ownBlock := by
  obtain ⟨cur, h1, -⟩ := h
  rcases hr.2 with ⟨rfl, _⟩ | ⟨g, cap, cur', rfl, _, hgb, _⟩
  · simp [Value.ownBlock]
  · intro e'
    obtain rfl : G = g := by simpa [Value.ownBlock] using e'
    rw [h1] at hgb
    simp at hgb
/-- Behind 'b = append(b, x)'. -/
theorem Held.appended {W w1 : World} {G : Nat} {A : List Int} {base size k : Nat} {v : Value} {xs : List Value} {tmp : Obj} (h : Held W G A) (hr : W.ownsRow base 5 size v k xs) (hg : (W.alloc tmp).grownBy w1 v.ownBlock) : Held w1 G A :=
  (h.alloc tmp).kept hg (h.not_row hr)
theorem Held.of_row {W : World} {base n : Nat} {g c : Nat} {A : List Int} (h : W.ownsRow base 3 1 (.slice (some ⟨g, 0, none⟩) n c) n (A.map (.int .i64))) : Held W g A ∧ n = A.length := by
  have hl : A.length = n := by have := h.1; simpa using this
  obtain ⟨-, ⟨e, e2⟩ | ⟨g', cap, cur, e, hb, hg, h1, h2, h3, h4⟩⟩ := h
  · cases e
  · cases e
    refine ⟨⟨cur, hg, fun j hj => ?_⟩, hl.symm⟩
    have h5 : (cur.toList.take (n * 1))[j]? = (A.map (Value.int .i64))[j]? := by rw [h4]
    rw [List.getElem?_take_of_lt (by omega)] at h5
    rw [← Array.getElem?_toList, h5]
    unfold iAt
    simp [hj]

/-- Is it a number at which the law passes by? -/
def badW (c : Int) (k : Nat) : Bool := !okP c || (decide (c = 0) && decide (k = 1))
theorem bad_not {c : Int} {k : Nat} (h : okP c = false) : badW c k = true := by unfold badW; rw [h]; rfl
theorem bad_zero {c : Int} {k : Nat} (h : c = 0) (hk : k = 1) : badW c k = true := by unfold badW; subst h; subst hk; decide
theorem bad_fine {c : Int} {k : Nat} (h : okP c = true) (hk : c ≠ 0 ∨ k ≠ 1) : badW c k = false := by
  unfold badW
  rw [h]
  rcases hk with hk | hk <;> simp [hk]
theorem okP_neg (c : Int) (h : c < 0) : okP c = false := by unfold okP; simp; omega
theorem okP_big (c : Int) (h : 1114111 < c) : okP c = false := by unfold okP; simp; omega
theorem bad_out {c : Int} {k : Nat} (h : badW c k = false) : okP c = true ∧ (c ≠ 0 ∨ k ≠ 1) := by
  unfold badW at h
  cases ho : okP c
  · rw [ho] at h; simp at h
  · rw [ho] at h
    simp at h
    exact ⟨rfl, by by_cases e : c = 0; exact .inr (h e); exact .inl e⟩
end Go.Proofs.YtdkodepeglpimaaDoor
