/- The document's example holds: alive answers true. -/
import Derived.Test.YtdkodepeglpimaaDoorPtsB
set_option linter.unusedVariables false
set_option linter.unusedSimpArgs false
namespace Go.Proofs.YtdkodepeglpimaaDoor
open Go.RowKit Go.Shelf

theorem pts_alive : ptsOf [255, 254, 65, 0] = ([65], 0) := by decide +kernel

set_option maxHeartbeats 400000 in
theorem num_any (e : Int) (w : World) : Calls Tryd.prog 13 #[.int .i64 e] w fun r w' => r = .returned (.int .i64 e) ∧ w' = w := by
  go_enter Tryd.func13, Tryd.ntmps13
  go_wp2
  go_ret
  exact ⟨rfl, rfl⟩

/-- A block of bytes. -/
def bytesObj (l : List UInt8) : Obj := .cells (l.map fun x => Value.int .u8 (x.toNat : Int)).toArray 5

theorem bs_of_block {W : World} {b : Nat} {l : List UInt8} {f : Nat × Nat} (h : W.heap[b]? = some (.cells (l.map fun x => Value.int .u8 (x.toNat : Int)).toArray 5 f)) : Bs W (some ⟨b, 0, none⟩) l := by
  refine .inr ⟨b, 0, rfl, fun j hj => ?_⟩
  simp [World.cell?, h, hj]

theorem lies_of_block {W : World} {b n₀ : Nat} {l : List UInt8} {f : Nat × Nat} (h : W.heap[b]? = some (.cells (l.map fun x => Value.int .u8 (x.toNat : Int)).toArray 5 f)) (hT : Lib.Utf8Tabs 0 1 W) (h1 : 1 < n₀) (hb : b < n₀) : Lies n₀ W (some ⟨b, 0, none⟩) l :=
  ⟨bs_of_block h, hT, h1, fun a e _ => by cases e; exact hb⟩

theorem tabs_alloc {w : World} (hT : Lib.Utf8Tabs 0 1 w) (h1 : 1 < w.heap.size) (o : Obj) : Lib.Utf8Tabs 0 1 (w.alloc o) := tabs_below hT h1 ((Below.refl _ w).alloc (Nat.le_refl _) _)

theorem points_new (l : List UInt8) (w : World) (hT : Lib.Utf8Tabs 0 1 w) (h1 : 1 < w.heap.size) (hl : l.length ≤ maxLen) :
    Calls Tryd.prog 9 #[.slice (some ⟨w.heap.size, 0, none⟩) l.length l.length] (w.alloc (bytesObj l)) fun e w' => ∃ v, e = .returned (.tuple #[v, .int .i64 (ptsOf l).2]) ∧ w'.ownsRow (w.heap.size + 1) 3 1 v (ptsOf l).1.length ((ptsOf l).1.map (.int .i64)) ∧ Below (w.heap.size + 1) (w.alloc (bytesObj l)) w' := by
  have := Points_any (some ⟨w.heap.size, 0, none⟩) l l.length (w.alloc (bytesObj l)) (Nat.le_refl _) hl (lies_of_block (World.alloc_heap_new w _) (tabs_alloc hT h1 _) (by simp; omega) (by simp))
  simpa using this

theorem points_alive (w : World) (hT : Lib.Utf8Tabs 0 1 w) (h1 : 1 < w.heap.size) :
    Calls Tryd.prog 9 #[.slice (some ⟨w.heap.size, 0, none⟩) 4 4] (w.alloc (.cells #[.int .u8 255, .int .u8 254, .int .u8 65, .int .u8 0] 5)) fun e w' => ∃ v, e = .returned (.tuple #[v, .int .i64 0]) ∧ w'.ownsRow (w.heap.size + 1) 3 1 v 1 [.int .i64 65] ∧ Below w.heap.size w w' := by
  have := points_new [255, 254, 65, 0] w hT h1 (by unfold maxLen; simp)
  rw [pts_alive] at this
  refine this.mono ?_
  rintro e w' ⟨v, rfl, ho, hb⟩
  exact ⟨v, rfl, ho, ((Below.refl _ w).alloc (Nat.le_refl _) _).trans (hb.mono (by omega))⟩

set_option maxRecDepth 100000 in
set_option maxHeartbeats 400000 in
theorem alive_any (w : World) (hT : Lib.Utf8Tabs 0 1 w) (h1 : 1 < w.heap.size) :
    Calls Tryd.prog 8 #[] w fun e w' => e = .returned (.bool true) ∧ Below w.heap.size w w' := by
  have PA := points_alive w hT h1
  clear hT
  go_enter Tryd.func8, Tryd.ntmps8
  go_wp2_with fail
  refine PA.mono ?_
  clear PA
  rintro e w' ⟨v, rfl, ho, hb⟩
  obtain ⟨g, cap, rfl⟩ := ownsRow_succ ho
  have hc : w'.cell? ⟨g, 0, none⟩ = some (.int .i64 65) := by have := ho.cellAt 0 (by omega); simpa using this
  go_wp2_with (go_at_call 13; refine (num_any _ _).mono ?_; rintro e w' ⟨rfl, rfl⟩)
  go_ret
  exact ⟨rfl, hb⟩
end Go.Proofs.YtdkodepeglpimaaDoor
