/- The example of the document: alive. -/
import Derived.Test.YtjfeamfchgcblaaDoorLow
set_option linter.all false
set_option maxRecDepth 100000
namespace Go.Proofs.YtjfeamfchgcblaaDoor
open Go.RowKit Go.Shelf
attribute [local go_sem] Oper.semAt_some

set_option maxHeartbeats 4000000 in
theorem alive_any (w : World) (hT : Tabs w) : Calls Tryd.prog 7 #[] w fun e w' => e = .returned (.bool true) ∧ Below w.heap.size w w' := by
  obtain ⟨w1, hw1⟩ : ∃ w1, w.alloc (.cells #[.int .i64 0] 3) = w1 := ⟨_, rfl⟩
  obtain ⟨w2, hw2⟩ : ∃ w2, w1.alloc (.cells #[.int .i64 2, .string ⟨#[120]⟩, .string ⟨#[]⟩, .slice (some ⟨w.heap.size, 0, none⟩) 1 1, .bool false] 33) = w2 := ⟨_, rfl⟩
  obtain ⟨w3, hw3⟩ : ∃ w3, w2.alloc (.cells #[.int .i64 0] 3) = w3 := ⟨_, rfl⟩
  obtain ⟨w4, hw4⟩ : ∃ w4, w3.alloc (.cells #[.slice (some ⟨w.heap.size + 1, 0, none⟩) 1 1, .slice (some ⟨w.heap.size + 1 + 1, 0, none⟩) 1 1] 25) = w4 := ⟨_, rfl⟩
  have s1 : w1.heap.size = w.heap.size + 1 := by rw [← hw1]; simp
  have s2 : w2.heap.size = w.heap.size + 1 + 1 := by rw [← hw2]; simp [s1]
  have s3 : w3.heap.size = w.heap.size + 1 + 1 + 1 := by rw [← hw3]; simp [s2]
  have B1 : Below w.heap.size w w1 := hw1 ▸ (Below.refl _ w).alloc (Nat.le_refl _) _
  have B2 : Below w1.heap.size w1 w2 := hw2 ▸ (Below.refl _ w1).alloc (Nat.le_refl _) _
  have B3 : Below w2.heap.size w2 w3 := hw3 ▸ (Below.refl _ w2).alloc (Nat.le_refl _) _
  have B4 : Below w3.heap.size w3 w4 := hw4 ▸ (Below.refl _ w3).alloc (Nat.le_refl _) _
  have x1 : w1.heap[w.heap.size]? = some (.cells #[.int .i64 0] 3) := hw1 ▸ World.alloc_heap_new w _
  have x2 : w2.heap[w.heap.size + 1]? = some (.cells #[.int .i64 2, .string ⟨#[120]⟩, .string ⟨#[]⟩, .slice (some ⟨w.heap.size, 0, none⟩) 1 1, .bool false] 33) := by
    have := World.alloc_heap_new w1 (.cells #[.int .i64 2, .string ⟨#[120]⟩, .string ⟨#[]⟩, .slice (some ⟨w.heap.size, 0, none⟩) 1 1, .bool false] 33)
    rw [hw2, s1] at this
    exact this
  have x3 : w3.heap[w.heap.size + 1 + 1]? = some (.cells #[.int .i64 0] 3) := by
    have := World.alloc_heap_new w2 (.cells #[.int .i64 0] 3)
    rw [hw3, s2] at this
    exact this
  have x4 : w4.heap[w.heap.size + 1 + 1 + 1]? = some (.cells #[.slice (some ⟨w.heap.size + 1, 0, none⟩) 1 1, .slice (some ⟨w.heap.size + 1 + 1, 0, none⟩) 1 1] 25) := by
    have := World.alloc_heap_new w3 (.cells #[.slice (some ⟨w.heap.size + 1, 0, none⟩) 1 1, .slice (some ⟨w.heap.size + 1 + 1, 0, none⟩) 1 1] 25)
    rw [hw4, s3] at this
    exact this
  have y1 : w4.heap[w.heap.size]? = some (.cells #[.int .i64 0] 3) := (B4.block _ (by omega)).trans ((B3.block _ (by omega)).trans ((B2.block _ (by omega)).trans x1))
  have y2 := (B4.block (w.heap.size + 1) (by omega)).trans ((B3.block _ (by omega)).trans x2)
  have y3 := (B4.block (w.heap.size + 1 + 1) (by omega)).trans x3
  have hB : Below w.heap.size w w4 := ((B1.trans (B2.mono B1.size)).trans (B3.mono (by omega))).trans (B4.mono (by omega))
  have hG : Gs w4 (some ⟨w.heap.size + 1, 0, none⟩) [exN (some ⟨w.heap.size, 0, none⟩)] := by
    refine ⟨fun j hj => ?_, fun _ => ⟨_, _, rfl, fun j hj => ?_⟩⟩
    · obtain rfl : j = 0 := by simp at hj; omega
      refine ⟨is_of_block (l := [0]) (f := (0, 0)) y1, Nat.le_refl _, ?_⟩
      show 1 ≤ maxLen
      unfold maxLen; omega
    · obtain rfl : j = 0 := by simp at hj; omega
      constructor <;> (unfold World.cell?; rw [y2]; rfl)
  have hI : Is w4 (some ⟨w.heap.size + 1 + 1, 0, none⟩) [0] := is_of_block (l := [0]) (f := (0, 0)) y3
  have hz : Gz [exN (some ⟨w.heap.size, 0, none⟩)] := ⟨by simp, fun x hx => by rw [List.mem_singleton.1 hx]; exact ⟨(show 1 ≤ 1048576 by omega), (show 0 ≤ 1048576 by omega), (show 1 ≤ 1000000 by omega)⟩⟩
  have hg2 := g2_of x4
  have hT4 := lowP.on hT hB
  have US := Uses_any lowP _ _ 1 1 _ _ 0 w4 hT4 hG hz hI (by simp)
  have RI : Hid (∀ W, Below w4.heap.size w4 W → _) := fun W hb => Right_any lowP _ _ 1 1 _ _ W (lowP.on hT4 hb) (hG.on hb) hz (hI.on hb) (by simp)
  have CY : Hid (∀ W, Below w4.heap.size w4 W → _) := fun W hb => Cyclic_any lowP _ _ 1 1 _ _ 0 W (lowP.on hT4 hb) (hG.on hb) hz (hI.on hb) (by simp)
  rw [ex_uses] at US
  simp only [ex_right, ex_cyc] at RI CY
  have h20 : w4.heap.size = w.heap.size + 1 + 1 + 1 + 1 := by rw [← hw4]; simp [s3]
  unfold grV at US RI CY
  obtain ⟨f0, f1⟩ := hg2
  have hg2 : G2 (w.heap.size + 1 + 1 + 1) (.slice (some ⟨w.heap.size + 1, 0, none⟩) 1 1) (.slice (some ⟨w.heap.size + 1 + 1, 0, none⟩) 1 1) w4 := ⟨f0, f1⟩
  clear hG hI hz hT4 y1 y2 y3 x1 x2 x3 x4 B1 B2 B3 B4
  subst hw1 hw2 hw3
  simp only [List.length_cons, List.length_nil, Nat.reduceAdd] at US RI CY
  have HW4 : Hid (_ = w4) := hw4
  go_enter Tryd.func7, Tryd.ntmps7
  go_wp2_with (first | (go_at_call 16; (try rw [hw4]); refine US.mono ?_; clear US; rintro e w5 ⟨v5, rfl, ho5, hb5⟩; obtain ⟨a5, k5, c5, rfl⟩ := ownsRow_form ho5; obtain ⟨hI5, rfl, hkc5, hcm5⟩ := is_of_row ho5; obtain ⟨b5, o5, rfl, hc5⟩ := hI5.at (by simp); have u5 : w5.cell? ⟨b5, o5, none⟩ = some (.int .i64 2) := hc5 0 (by simp); obtain ⟨g50, g51⟩ := hg2.on hb5; have RI5 := RI.out w5 hb5; have hg5 := hg2.on hb5; clear hc5 hI5 ho5) | (go_at_call 9; refine RI5.mono ?_; clear RI5; rintro e w6 ⟨rfl, hb6⟩; obtain ⟨g60, g61⟩ := hg5.on hb6; have CY6 := CY.out w6 (hb5.trans (hb6.mono hb5.size))) | (go_at_call 14; refine CY6.mono ?_; clear CY6; rintro e w7 ⟨rfl, hb7⟩; have u7 := (hb7.cell (p := ⟨b5, o5, none⟩) (by have := World.block_lt_of_cell? w5 _ u5; have := hb6.size; dsimp only at *; omega)).trans ((hb6.cell (p := ⟨b5, o5, none⟩) (World.block_lt_of_cell? w5 _ u5)).trans u5)))
  go_ret
  exact ⟨rfl, hB.trans ((hb5.trans ((hb6.trans (hb7.mono hb6.size)).mono hb5.size)).mono hB.size)⟩
end Go.Proofs.YtjfeamfchgcblaaDoor
