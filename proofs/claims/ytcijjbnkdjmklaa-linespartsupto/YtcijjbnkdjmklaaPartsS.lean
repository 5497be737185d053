/- Appends as steps of a region that draws its order; the three ends, as they are laid. -/
import Derived.Test.YtcijjbnkdjmklaaPartsW
import Derived.Deep.RegionLaw
set_option linter.unusedVariables false
set_option linter.unusedSimpArgs false
namespace Go.Proofs.Ytcijjbnkdjmklaa
open Go.RowKit Go.Shelf

theorem step_append_run {P : Program} {w w' : World} {ops : Array Oper} {o : Oper} {a : Act} {K : Act → World → Prop} {Q : Exit → Act → World → Prop} {E : Prop} (hgd : o.guard = none) (s x : Operand) (t : TypeId)
    (ho : o.op = .call { callee := .builtin .append, args := #[s, x], argTypes := #[t, t] }) {u y v : Value} (hs : a.eval s = u) (hx : a.eval x = y)
    (hrun : (Builtin.append_ #[t, t] o.type #[u, y]).run P w = .ok v w') (h : K (a.put o.dst v) w') : if Region.wanted o (yielded ops a.tmps) = true then Oper.wp P o a w K Q else E := by
  have hw : Region.wanted o (yielded ops a.tmps) = true := by simp [Region.wanted, hgd]
  rw [if_pos hw]
  unfold Oper.wp execOp
  simp [ho, resolve, invoke, builtin, hs, hx, hrun, Result.andThen]
  exact h

/-- The world behind ends := .. -/
def endsW (W : World) : World := (((W.alloc (.cells #[.int .i64 10] 3)).alloc (.cells #[.int .i64 13] 3)).alloc (.cells #[.int .i64 13, .int .i64 10] 3)).alloc (.cells #[.slice (some ⟨W.heap.size, 0, none⟩) 1 1, .slice (some ⟨W.heap.size + 1, 0, none⟩) 1 1, .slice (some ⟨W.heap.size + 1 + 1, 0, none⟩) 2 2] 22)

theorem endsW_below (W : World) : Below W.heap.size W (endsW W) := by
  unfold endsW
  exact (((below2 W _ _).alloc (by simp; omega) _).alloc (by simp; omega) _)
theorem endsW_row (W : World) : (endsW W).heap[W.heap.size + 1 + 1 + 1]? = some (.cells #[.slice (some ⟨W.heap.size, 0, none⟩) 1 1, .slice (some ⟨W.heap.size + 1, 0, none⟩) 1 1, .slice (some ⟨W.heap.size + 1 + 1, 0, none⟩) 2 2] 22) := by
  have := World.alloc_heap_new (((W.alloc (.cells #[.int .i64 10] 3)).alloc (.cells #[.int .i64 13] 3)).alloc (.cells #[.int .i64 13, .int .i64 10] 3)) (.cells #[.slice (some ⟨W.heap.size, 0, none⟩) 1 1, .slice (some ⟨W.heap.size + 1, 0, none⟩) 1 1, .slice (some ⟨W.heap.size + 1 + 1, 0, none⟩) 2 2] 22)
  simp only [World.size_alloc] at this
  exact this
theorem endsW_0 (W : World) : (endsW W).heap[W.heap.size]? = some (.cells #[.int .i64 10] 3) := by
  unfold endsW
  rw [Below.heap_alloc _ _ _ (by simp <;> omega), Below.heap_alloc _ _ _ (by simp <;> omega), Below.heap_alloc _ _ _ (by simp)]
  exact World.alloc_heap_new W _
theorem endsW_1 (W : World) : (endsW W).heap[W.heap.size + 1]? = some (.cells #[.int .i64 13] 3) := by
  unfold endsW
  rw [Below.heap_alloc _ _ _ (by simp <;> omega), Below.heap_alloc _ _ _ (by simp)]
  have := World.alloc_heap_new (W.alloc (.cells #[.int .i64 10] 3)) (.cells #[.int .i64 13] 3)
  simp only [World.size_alloc] at this
  exact this
theorem endsW_2 (W : World) : (endsW W).heap[W.heap.size + 1 + 1]? = some (.cells #[.int .i64 13, .int .i64 10] 3) := by
  unfold endsW
  rw [Below.heap_alloc _ _ _ (by simp)]
  have := World.alloc_heap_new ((W.alloc (.cells #[.int .i64 10] 3)).alloc (.cells #[.int .i64 13] 3)) (.cells #[.int .i64 13, .int .i64 10] 3)
  simp only [World.size_alloc] at this
  exact this

theorem ends_0 (W : World) : Below W.heap.size W (endsW W) ∧ (endsW W).cell? ⟨W.heap.size + 1 + 1 + 1, 0, none⟩ = some (.slice (some ⟨W.heap.size, 0, none⟩) 1 1) ∧ Is (endsW W) (some ⟨W.heap.size, 0, none⟩) [10] :=
  ⟨endsW_below W, by simp [World.cell?, endsW_row], is_of_block (endsW_0 W)⟩
theorem ends_1 (W : World) : Below W.heap.size W (endsW W) ∧ (endsW W).cell? ⟨W.heap.size + 1 + 1 + 1, 1, none⟩ = some (.slice (some ⟨W.heap.size + 1, 0, none⟩) 1 1) ∧ Is (endsW W) (some ⟨W.heap.size + 1, 0, none⟩) [13] :=
  ⟨endsW_below W, by simp [World.cell?, endsW_row], is_of_block (endsW_1 W)⟩
theorem ends_2 (W : World) : Below W.heap.size W (endsW W) ∧ (endsW W).cell? ⟨W.heap.size + 1 + 1 + 1, 2, none⟩ = some (.slice (some ⟨W.heap.size + 1 + 1, 0, none⟩) 2 2) ∧ Is (endsW W) (some ⟨W.heap.size + 1 + 1, 0, none⟩) [13, 10] :=
  ⟨endsW_below W, by simp [World.cell?, endsW_row], is_of_block (endsW_2 W)⟩

theorem Rws.blk {w : World} {base : Nat} {v : Value} {xs : List (Nat × List Int)} (h : Rws w base v xs) : ∀ g, v.ownBlock = some g → g < w.heap.size := by
  obtain ⟨cells, h1, -⟩ := h
  exact fun g e => (h1.lt g e).2

/-- What stands behind Read: the lines of both, one list behind the other. -/
theorem parts_end {w W W1 W3 w6 w7 : World} {xv yv : Value} {la : Option Addr} {lk lc : Nat} {A B : List (Nat × List Int)}
    (hr1 : Rws W1 W.heap.size xv A) (hr1e : Rws W3 W.heap.size xv A) (hr2e : Rws W3 W1.heap.size yv B) (hW1 : W.heap.size ≤ W1.heap.size) (h13 : W1.heap.size ≤ W3.heap.size) (h37 : Below W3.heap.size W3 w7) (h36 : W3.heap.size ≤ w6.heap.size)
    (hr7 : Rws w7 w6.heap.size (.slice la lk lc) (A ++ B)) (hB3 : Below w.heap.size w W3) (hwW : w.heap.size ≤ W.heap.size) (hn : A.length + B.length ≤ 1048576) :
    ∃ a8 c8 w8, (Builtin.append_ #[24, 24] 24 #[xv, yv]).run Try.prog w7 = .ok (.slice a8 (A ++ B).length c8) w8 ∧ Below w.heap.size w w8 ∧ Ls w8 la (A ++ B) ∧ Ls w8 a8 (A ++ B) ∧ lk = (A ++ B).length := by
  have hx7 := hr1e.on h37
  have hy7 := hr2e.on h37
  have hs := h37.size
  obtain ⟨v8, w8, hrun, hR, hbel, hold⟩ := append_lines hx7 hy7 (by omega) hW1 hn
  obtain ⟨a8, c8, rfl, -, -, hL8, -⟩ := hR.read
  have hl8 : Rws w8 w6.heap.size (.slice la lk lc) (A ++ B) := hr7.blocks fun g hg ⟨cur, e, f, hc⟩ => hold g (Array.getElem?_eq_some_iff.1 hc).1 (fun e' => by have := hr1.blk g e'.symm; omega)
  obtain ⟨la', lc', e, -, -, hLl, -⟩ := hl8.read
  cases e
  exact ⟨a8, c8, w8, hrun, (hB3.trans (h37.mono hB3.size)).trans (hbel.mono hwW), hLl, hL8, rfl⟩
end Go.Proofs.Ytcijjbnkdjmklaa
