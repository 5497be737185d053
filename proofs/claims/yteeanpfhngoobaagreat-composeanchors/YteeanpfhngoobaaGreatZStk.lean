/- Stacks in memory: lists of the call's own, that grow, shrink and are written at their end. -/
import Derived.Test.YteeanpfhngoobaaGreatZYlo
import Derived.Deep.AppendLies
import Derived.RangeFuncBox
set_option linter.unusedVariables false
set_option linter.unusedSimpArgs false
set_option maxRecDepth 100000
namespace Go.Proofs.YteeanpfhngoobaaGreat
open Go.RowKit Go.Shelf

/-- The slice v, in memory of the call's own, holds s, its top last. -/
def Stk {α : Type} (e : TypeId) (f : α → Value) (w : World) (base : Nat) (v : Value) (s : List α) : Prop := w.ownsRow base e 1 v s.length (s.reverse.map f)

section
variable {α : Type} {e : TypeId} {f : α → Value} {w : World} {base : Nat} {v : Value} {s r : List α} {h h' : α} {g cap : Nat}

theorem Stk.zero (e : TypeId) (f : α → Value) (w : World) (base : Nat) : Stk e f w base (.slice none 0 0) [] := World.ownsRow_nil _ _ _ _
theorem Stk.form (hs : Stk e f w base v (h :: r)) : ∃ g cap, v = .slice (some ⟨g, 0, none⟩) (r.length + 1) cap ∧ base ≤ g ∧ g < w.heap.size ∧ r.length + 1 ≤ cap ∧ cap ≤ maxLen := by
  obtain ⟨-, ⟨e1, e2⟩ | ⟨g, cap, cur, e1, hb, hg, h1, h2, -⟩⟩ := hs
  · cases e2
  · exact ⟨g, cap, e1, hb, (Array.getElem?_eq_some_iff.1 hg).1, h1, h2⟩
theorem Stk.shape (hs : Stk e f w base v s) : ∃ a cap, v = .slice a s.length cap ∧ s.length ≤ cap ∧ cap ≤ maxLen ∧ (∀ x, a = some x → base ≤ x.block ∧ x.block < w.heap.size) := by
  obtain ⟨-, ⟨e1, e2⟩ | ⟨g, cap, cur, e1, hb, hg, h1, h2, -⟩⟩ := hs
  · exact ⟨none, 0, by rw [e1, e2], by omega, Nat.zero_le _, fun x e => by cases e⟩
  · exact ⟨_, cap, e1, h1, h2, fun x e => by cases e; exact ⟨hb, (Array.getElem?_eq_some_iff.1 hg).1⟩⟩
theorem Stk.block (hs : Stk e f w base (.slice (some ⟨g, 0, none⟩) (r.length + 1) cap) (h :: r)) : ∃ cur : Array Value, w.heap[g]? = some (.cells cur e (0, 0)) ∧ base ≤ g ∧ r.length + 1 ≤ cap ∧ cap ≤ maxLen ∧ cur.size = cap ∧ cur.toList.take (r.length + 1) = (r.reverse.map f) ++ [f h] := by
  obtain ⟨-, ⟨e1, e2⟩ | ⟨g', cap', cur, e1, hb, hg, h1, h2, h3, h4⟩⟩ := hs
  · cases e2
  · simp only [List.length_cons, Value.slice.injEq, Option.some.injEq, Addr.mk.injEq, true_and, and_true] at e1
    obtain ⟨rfl, rfl⟩ := e1
    refine ⟨cur, hg, hb, h1, h2, by simpa using h3, ?_⟩
    simpa using h4
theorem Stk.top (hs : Stk e f w base (.slice (some ⟨g, 0, none⟩) (r.length + 1) cap) (h :: r)) : w.cell? ⟨g, r.length, none⟩ = some (f h) := by
  have := World.ownsRow.cells hs (g := g) rfl r.length (f h) (by simp)
  rw [add_plain, Nat.zero_add] at this
  exact this
theorem Stk.frozen (hs : Stk e f w base (.slice (some ⟨g, 0, none⟩) (r.length + 1) cap) (h :: r)) (o : Nat) : w.frozen? ⟨g, o, none⟩ = false := by
  obtain ⟨cur, hg, -⟩ := hs.block
  simp [World.frozen?, hg]
theorem Stk.pop (hs : Stk e f w base (.slice (some ⟨g, 0, none⟩) (r.length + 1) cap) (h :: r)) : Stk e f w base (.slice (some ⟨g, 0, none⟩) r.length cap) r := by
  obtain ⟨cur, hg, hb, h1, h2, h3, h4⟩ := hs.block
  refine ⟨by simp, .inr ⟨g, cap, cur, rfl, hb, hg, by omega, h2, by simpa using h3, ?_⟩⟩
  have := congrArg (List.take r.length) h4
  rw [List.take_take, Nat.min_eq_left (by omega), List.take_append_of_le_length (by simp)] at this
  rw [Nat.mul_one, this, List.take_of_length_le (by simp)]
theorem Stk.same {w' : World} (hs : Stk e f w base v s) (hk : ∀ g, v.ownBlock = .some g → w'.heap[g]? = w.heap[g]?) : Stk e f w' base v s := by
  obtain ⟨h0, ⟨e1, e2⟩ | ⟨g, cap, cur, e1, hb, hg, h1⟩⟩ := hs
  · exact ⟨h0, .inl ⟨e1, e2⟩⟩
  · exact ⟨h0, .inr ⟨g, cap, cur, e1, hb, (hk g (by rw [e1]; rfl)).trans hg, h1⟩⟩
theorem Stk.set (hs : Stk e f w base (.slice (some ⟨g, 0, none⟩) (r.length + 1) cap) (h :: r)) (h' : α) : Stk e f (w.setCell ⟨g, r.length, none⟩ (f h')) base (.slice (some ⟨g, 0, none⟩) (r.length + 1) cap) (h' :: r) := by
  obtain ⟨cur, hg, hb, h1, h2, h3, h4⟩ := hs.block
  have hlt := (Array.getElem?_eq_some_iff.1 hg).1
  refine ⟨by simp, .inr ⟨g, cap, cur.setIfInBounds r.length (f h'), rfl, hb, ?_, h1, h2, by simpa using h3, ?_⟩⟩
  · simp only [World.setCell, Array.getElem?_modify, hg, if_true, Option.map_some]
    rfl
  · simp only [Array.toList_setIfInBounds, List.length_cons, Nat.mul_one, List.reverse_cons, List.map_append, List.map_cons, List.map_nil]
    rw [List.take_set, h4, List.set_append_right _ _ (by simp)]
    simp
theorem grown_set (w : World) (g o : Nat) (x : Value) : w.grownBy (w.setCell ⟨g, o, none⟩ x) (some g) :=
  ⟨rfl, rfl, rfl, by simp [World.setCell], fun k hk hne => Deep.blk_setCell_other _ _ _ _ (fun e => hne (by have e' : k = g := e; rw [e']))⟩

/-- One more. -/
theorem Stk.push (t : TypeId) (z : Value) (bytes : Nat) (ht : Tryz.prog.underlying t = Option.some (.slice e)) (hi : (Tryz.prog.info? e).map (fun i => (i.zero, i.size, i.bytes)) = Option.some (Option.some z, 1, bytes)) (hz : z.cells.size = 1) (hby : bytes ≤ 8)
    (hs : Stk e f w base v s) (hb : base ≤ w.heap.size) (hn : s.length + 1 ≤ 5864062014806) (x : α) (hx : (f x).oneCell' = true) :
    ∃ g cap w1, (Builtin.append_ #[t, t] t #[v, .slice (some ⟨w.heap.size, 0, none⟩) 1 1]).run Tryz.prog (w.alloc (.cells #[f x] e)) = .ok (.slice (some ⟨g, 0, none⟩) (s.length + 1) cap) w1 ∧
      Stk e f w1 base (.slice (some ⟨g, 0, none⟩) (s.length + 1) cap) (x :: s) ∧ (w.alloc (.cells #[f x] e)).grownBy w1 v.ownBlock ∧ (v.ownBlock = Option.some g ∨ g = w.heap.size + 1) ∧ g < w1.heap.size := by
  obtain ⟨i0, hi, hz0, hz1, hz2⟩ := info_parts hi
  obtain ⟨g, cap, w1, h1, h2, h3, h4, h5⟩ := run_append_lies (P := Tryz.prog) (w.alloc (.cells #[f x] e)) t t base e i0 z 1 bytes ht hi hz0 hz1 hz2 hz (by decide)
    v s.length (s.reverse.map f) (World.ownsRow.alloc hs _) ⟨w.heap.size, 0, none⟩ 1 1 [f x] rfl (cell_one_new _ _ _) (by simp [hx]) (by decide) (by unfold maxLen; omega) (by
      have : (s.length + 1) * bytes ≤ (s.length + 1) * 8 := Nat.mul_le_mul_left _ hby
      omega) (by simp; omega) (w.heap.size + 1) (by simp)
  refine ⟨g, cap, w1, h1, ?_, h3, h4, h5⟩
  unfold Stk
  rw [List.reverse_cons, List.map_append]
  exact h2
end
/-- A list made anew. -/
theorem Stk.one {α : Type} (e : TypeId) (f : α → Value) (w : World) (x : α) : Stk e f (w.alloc (.cells #[f x] e)) w.heap.size (.slice (some ⟨w.heap.size, 0, none⟩) 1 1) [x] :=
  ⟨rfl, .inr ⟨w.heap.size, 1, #[f x], rfl, Nat.le_refl _, World.alloc_heap_new _ _, Nat.le_refl _, by unfold maxLen; omega, rfl, rfl⟩⟩

theorem cut_to (t e : TypeId) (hu : Tryz.prog.underlying t = some (.slice e)) (hz : ∀ w, (sizeOf e).run Tryz.prog w = .ok 1 w) (p : Option Addr) (len cap s : Nat) (hs : s ≤ cap) (w2 : World) :
    (Instr.slice t (.slice p len cap) none (some (.int .i64 s)) none).run Tryz.prog w2 = .ok (.slice p s cap) w2 := by
  have h0 : (s : Int) ≤ cap := by omega
  cases p with
  | none => simp [go_sem, h0, hu, hz]
  | some a =>
    obtain ⟨b, o, sp⟩ := a
    by_cases hc : cap = 0
    · subst hc; obtain rfl : s = 0 := by omega
      simp [go_sem, hu, hz]
    · cases sp <;> simp [go_sem, h0, hc, Addr.add, hu, hz]
theorem cut39 (p : Option Addr) (len cap s : Nat) (hs : s ≤ cap) (w2 : World) : (Instr.slice 121 (.slice p len cap) none (some (.int .i64 s)) none).run Tryz.prog w2 = .ok (.slice p s cap) w2 :=
  cut_to 121 90 Tryz.underlying121 Tryz.sizeOf90 p len cap s hs w2
theorem cut37 (p : Option Addr) (len cap s : Nat) (hs : s ≤ cap) (w2 : World) : (Instr.slice 26 (.slice p len cap) none (some (.int .i64 s)) none).run Tryz.prog w2 = .ok (.slice p s cap) w2 :=
  cut_to 26 3 Tryz.underlying26 Tryz.sizeOf3 p len cap s hs w2
theorem cut42 (p : Option Addr) (len cap s : Nat) (hs : s ≤ cap) (w2 : World) : (Instr.slice 131 (.slice p len cap) none (some (.int .i64 s)) none).run Tryz.prog w2 = .ok (.slice p s cap) w2 :=
  cut_to 131 4 Tryz.underlying131 Tryz.sizeOf4 p len cap s hs w2
theorem Tryz.info90 : (Tryz.prog.info? 90).map (fun i => (i.zero, i.size, i.bytes)) = some (some (.int .u8 0), 1, 1) := by kernel_rfl
theorem Tryz.info4 : (Tryz.prog.info? 4).map (fun i => (i.zero, i.size, i.bytes)) = some (some (.bool false), 1, 1) := by kernel_rfl
end Go.Proofs.YteeanpfhngoobaaGreat
