/- The table of short escapes, as it lies in memory. -/
import Derived.Test.YtpiefdpcinjkpaaDoorFst
import Derived.Deep.MidRow
set_option linter.unusedVariables false
set_option linter.unusedSimpArgs false
namespace Go.Proofs.YtpiefdpcinjkpaaDoor
open Go.RowKit

/-- The table lies as its text lays it. -/
def Tab (w : World) : Prop := ∀ j, j < 18 → w.cell? ⟨0, 2 * j, none⟩ = some (.int .i64 (sgn j)) ∧ w.cell? ⟨0, 2 * j + 1, none⟩ = some (.int .i64 (pnt j))
theorem Tab.lt {w : World} (h : Tab w) : 0 < w.heap.size := World.block_lt_of_cell? w ⟨0, 2 * 0, none⟩ (h 0 (by decide)).1
theorem Tab.below {w W : World} {n : Nat} (h : Tab w) (hb : Below n w W) (hn : 0 < n) : Tab W := fun j hj =>
  ⟨(hb.cell (p := ⟨0, 2 * j, none⟩) hn).trans (h j hj).1, (hb.cell (p := ⟨0, 2 * j + 1, none⟩) hn).trans (h j hj).2⟩
theorem Tab.grown {w W : World} (h : Tab w) (hg : w.grownBy W none) : Tab W := h.below (grown_below hg) h.lt
theorem Tab.on {w W : World} (h : Tab w) (hb : Below w.heap.size w W) : Tab W := h.below hb h.lt

def tabV : Value := .agg #[.int .i64 48, .int .i64 0, .int .i64 97, .int .i64 7, .int .i64 98, .int .i64 8, .int .i64 116, .int .i64 9, .int .i64 9, .int .i64 9, .int .i64 110, .int .i64 10, .int .i64 118, .int .i64 11, .int .i64 102, .int .i64 12, .int .i64 114, .int .i64 13, .int .i64 101, .int .i64 27, .int .i64 32, .int .i64 32, .int .i64 34, .int .i64 34, .int .i64 47, .int .i64 47, .int .i64 92, .int .i64 92, .int .i64 78, .int .i64 133, .int .i64 95, .int .i64 160, .int .i64 76, .int .i64 8232, .int .i64 80, .int .i64 8233]

theorem tab_range {w : World} (h : Tab w) : w.rangeAt 0 0 [.int .i64 48, .int .i64 0, .int .i64 97, .int .i64 7, .int .i64 98, .int .i64 8, .int .i64 116, .int .i64 9, .int .i64 9, .int .i64 9, .int .i64 110, .int .i64 10, .int .i64 118, .int .i64 11, .int .i64 102, .int .i64 12, .int .i64 114, .int .i64 13, .int .i64 101, .int .i64 27, .int .i64 32, .int .i64 32, .int .i64 34, .int .i64 34, .int .i64 47, .int .i64 47, .int .i64 92, .int .i64 92, .int .i64 78, .int .i64 133, .int .i64 95, .int .i64 160, .int .i64 76, .int .i64 8232, .int .i64 80, .int .i64 8233] := by
  intro j v hv
  have hj : j < 36 := (List.getElem?_eq_some_iff.1 hv).1
  have hh := h (j / 2) (by omega)
  rw [Nat.zero_add]
  rcases Nat.mod_two_eq_zero_or_one j with e | e
  · have e2 : 2 * (j / 2) = j := by omega
    have h1 := hh.1
    rw [e2] at h1
    rw [h1, ← hv]
    have : ∀ k, k < 18 → some (Value.int .i64 (sgn k)) = [Value.int .i64 48, .int .i64 0, .int .i64 97, .int .i64 7, .int .i64 98, .int .i64 8, .int .i64 116, .int .i64 9, .int .i64 9, .int .i64 9, .int .i64 110, .int .i64 10, .int .i64 118, .int .i64 11, .int .i64 102, .int .i64 12, .int .i64 114, .int .i64 13, .int .i64 101, .int .i64 27, .int .i64 32, .int .i64 32, .int .i64 34, .int .i64 34, .int .i64 47, .int .i64 47, .int .i64 92, .int .i64 92, .int .i64 78, .int .i64 133, .int .i64 95, .int .i64 160, .int .i64 76, .int .i64 8232, .int .i64 80, .int .i64 8233][2 * k]? := by
      intro k hk
      match k, hk with
      | 0, _ => rfl
      | 1, _ => rfl
      | 2, _ => rfl
      | 3, _ => rfl
      | 4, _ => rfl
      | 5, _ => rfl
      | 6, _ => rfl
      | 7, _ => rfl
      | 8, _ => rfl
      | 9, _ => rfl
      | 10, _ => rfl
      | 11, _ => rfl
      | 12, _ => rfl
      | 13, _ => rfl
      | 14, _ => rfl
      | 15, _ => rfl
      | 16, _ => rfl
      | 17, _ => rfl
      | k + 18, h => omega
    have := this (j / 2) (by omega)
    rw [e2] at this
    exact this
  · have e2 : 2 * (j / 2) + 1 = j := by omega
    have h1 := hh.2
    rw [e2] at h1
    rw [h1, ← hv]
    have : ∀ k, k < 18 → some (Value.int .i64 (pnt k)) = [Value.int .i64 48, .int .i64 0, .int .i64 97, .int .i64 7, .int .i64 98, .int .i64 8, .int .i64 116, .int .i64 9, .int .i64 9, .int .i64 9, .int .i64 110, .int .i64 10, .int .i64 118, .int .i64 11, .int .i64 102, .int .i64 12, .int .i64 114, .int .i64 13, .int .i64 101, .int .i64 27, .int .i64 32, .int .i64 32, .int .i64 34, .int .i64 34, .int .i64 47, .int .i64 47, .int .i64 92, .int .i64 92, .int .i64 78, .int .i64 133, .int .i64 95, .int .i64 160, .int .i64 76, .int .i64 8232, .int .i64 80, .int .i64 8233][2 * k + 1]? := by
      intro k hk
      match k, hk with
      | 0, _ => rfl
      | 1, _ => rfl
      | 2, _ => rfl
      | 3, _ => rfl
      | 4, _ => rfl
      | 5, _ => rfl
      | 6, _ => rfl
      | 7, _ => rfl
      | 8, _ => rfl
      | 9, _ => rfl
      | 10, _ => rfl
      | 11, _ => rfl
      | 12, _ => rfl
      | 13, _ => rfl
      | 14, _ => rfl
      | 15, _ => rfl
      | 16, _ => rfl
      | 17, _ => rfl
      | k + 18, h => omega
    have := this (j / 2) (by omega)
    rw [e2] at this
    exact this

theorem load_tab {w : World} (h : Tab w) : (Instr.loadAt 66 (.pointer (some ⟨0, 0, none⟩))).run Tryd.prog w = .ok tabV w :=
  run_loadAt_mid w 0 0 66 _ _ (tab_range h) Tryd.underlying66 rfl (by kernel_rfl)

set_option maxRecDepth 100000 in
set_option maxHeartbeats 1000000 in
theorem index_tab (j : Nat) (hj : j < 18) (w : World) : (Instr.index 66 tabV (.int .i64 (j : Nat))).run Tryd.prog w = .ok (.agg #[.int .i64 (sgn j), .int .i64 (pnt j)]) w := by
  have hi : (0 : Int) ≤ (j : Nat) ∧ ((j : Nat) : Int) < (18 : Nat) := by omega
  have z := Tryd.sizeOf65
  have u := Tryd.underlying65
  unfold tabV
  match j, hj with
  | 0, _ => simp [Instr.index, run_underlying Tryd.underlying66, asIntOf, go_sem, part, sgn, pnt, shortsL]
  | 1, _ => simp [Instr.index, run_underlying Tryd.underlying66, asIntOf, go_sem, part, sgn, pnt, shortsL]
  | 2, _ => simp [Instr.index, run_underlying Tryd.underlying66, asIntOf, go_sem, part, sgn, pnt, shortsL]
  | 3, _ => simp [Instr.index, run_underlying Tryd.underlying66, asIntOf, go_sem, part, sgn, pnt, shortsL]
  | 4, _ => simp [Instr.index, run_underlying Tryd.underlying66, asIntOf, go_sem, part, sgn, pnt, shortsL]
  | 5, _ => simp [Instr.index, run_underlying Tryd.underlying66, asIntOf, go_sem, part, sgn, pnt, shortsL]
  | 6, _ => simp [Instr.index, run_underlying Tryd.underlying66, asIntOf, go_sem, part, sgn, pnt, shortsL]
  | 7, _ => simp [Instr.index, run_underlying Tryd.underlying66, asIntOf, go_sem, part, sgn, pnt, shortsL]
  | 8, _ => simp [Instr.index, run_underlying Tryd.underlying66, asIntOf, go_sem, part, sgn, pnt, shortsL]
  | 9, _ => simp [Instr.index, run_underlying Tryd.underlying66, asIntOf, go_sem, part, sgn, pnt, shortsL]
  | 10, _ => simp [Instr.index, run_underlying Tryd.underlying66, asIntOf, go_sem, part, sgn, pnt, shortsL]
  | 11, _ => simp [Instr.index, run_underlying Tryd.underlying66, asIntOf, go_sem, part, sgn, pnt, shortsL]
  | 12, _ => simp [Instr.index, run_underlying Tryd.underlying66, asIntOf, go_sem, part, sgn, pnt, shortsL]
  | 13, _ => simp [Instr.index, run_underlying Tryd.underlying66, asIntOf, go_sem, part, sgn, pnt, shortsL]
  | 14, _ => simp [Instr.index, run_underlying Tryd.underlying66, asIntOf, go_sem, part, sgn, pnt, shortsL]
  | 15, _ => simp [Instr.index, run_underlying Tryd.underlying66, asIntOf, go_sem, part, sgn, pnt, shortsL]
  | 16, _ => simp [Instr.index, run_underlying Tryd.underlying66, asIntOf, go_sem, part, sgn, pnt, shortsL]
  | 17, _ => simp [Instr.index, run_underlying Tryd.underlying66, asIntOf, go_sem, part, sgn, pnt, shortsL]
  | j + 18, h => omega
end Go.Proofs.YtpiefdpcinjkpaaDoor
