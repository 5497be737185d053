/- The document's own Form is the code's. -/
import Derived.Test.YtdkodepeglpimaaDoorRefA
import Derived.Test.YtdkodepeglpimaaDoorAlive
set_option linter.unusedVariables false
set_option linter.unusedSimpArgs false
namespace Go.Proofs.YtdkodepeglpimaaDoor
open Go.RowKit Go.Shelf

theorem ret2_int {k : IntKind} {a b c d : Int} (h : a = c) (h' : b = d) : Ending.returned (.tuple #[.int k a, .int k b]) = .returned (.tuple #[.int k c, .int k d]) := by rw [h, h']

theorem is_lit (m : List UInt8) (p : Option Addr) (l : List UInt8) (c : Nat) (w W : World) (hn : (l.length : Int) ≤ 1048576) (hm : (m.length : Int) ≤ 4) (hp : Bs w p l) (hpa : ∀ a, p = some a → 0 < l.length → a.block < w.heap.size) (hB : Below w.heap.size w W) :
    Calls Tryd.prog 24 #[.slice p l.length c, .slice (some ⟨W.heap.size, 0, none⟩) m.length m.length] (W.alloc (bytesObj m)) fun e w' => e = .returned (.bool (beginsB l ⟨m.toArray⟩)) ∧ Below w.heap.size w w' := by
  have hB1 : Below w.heap.size w (W.alloc (bytesObj m)) := hB.alloc hB.size _
  refine (is_any p (some ⟨W.heap.size, 0, none⟩) l m c m.length (W.alloc (bytesObj m)) hn hm (hp.below hpa hB1) (bs_of_block (World.alloc_heap_new W _))).mono ?_
  rintro e w' ⟨rfl, k, rfl⟩
  exact ⟨rfl, below_drewN hB1 k⟩
theorem is_m0 (p : Option Addr) (l : List UInt8) (c : Nat) (w W : World) (hn : (l.length : Int) ≤ 1048576) (hp : Bs w p l) (hpa : ∀ a, p = some a → 0 < l.length → a.block < w.heap.size) (hB : Below w.heap.size w W) :
    Calls Tryd.prog 24 #[.slice p l.length c, .slice (some ⟨W.heap.size, 0, none⟩) 4 4] (W.alloc (.cells #[.int .u8 0, .int .u8 0, .int .u8 254, .int .u8 255] 5)) fun e w' => e = .returned (.bool (beginsB l ⟨#[0, 0, 254, 255]⟩)) ∧ Below w.heap.size w w' :=
  is_lit [0, 0, 254, 255] p l c w W hn (by decide) hp hpa hB
theorem is_m1 (p : Option Addr) (l : List UInt8) (c : Nat) (w W : World) (hn : (l.length : Int) ≤ 1048576) (hp : Bs w p l) (hpa : ∀ a, p = some a → 0 < l.length → a.block < w.heap.size) (hB : Below w.heap.size w W) :
    Calls Tryd.prog 24 #[.slice p l.length c, .slice (some ⟨W.heap.size, 0, none⟩) 4 4] (W.alloc (.cells #[.int .u8 255, .int .u8 254, .int .u8 0, .int .u8 0] 5)) fun e w' => e = .returned (.bool (beginsB l ⟨#[255, 254, 0, 0]⟩)) ∧ Below w.heap.size w w' :=
  is_lit [255, 254, 0, 0] p l c w W hn (by decide) hp hpa hB
theorem is_m2 (p : Option Addr) (l : List UInt8) (c : Nat) (w W : World) (hn : (l.length : Int) ≤ 1048576) (hp : Bs w p l) (hpa : ∀ a, p = some a → 0 < l.length → a.block < w.heap.size) (hB : Below w.heap.size w W) :
    Calls Tryd.prog 24 #[.slice p l.length c, .slice (some ⟨W.heap.size, 0, none⟩) 2 2] (W.alloc (.cells #[.int .u8 254, .int .u8 255] 5)) fun e w' => e = .returned (.bool (beginsB l ⟨#[254, 255]⟩)) ∧ Below w.heap.size w w' :=
  is_lit [254, 255] p l c w W hn (by decide) hp hpa hB
theorem is_m3 (p : Option Addr) (l : List UInt8) (c : Nat) (w W : World) (hn : (l.length : Int) ≤ 1048576) (hp : Bs w p l) (hpa : ∀ a, p = some a → 0 < l.length → a.block < w.heap.size) (hB : Below w.heap.size w W) :
    Calls Tryd.prog 24 #[.slice p l.length c, .slice (some ⟨W.heap.size, 0, none⟩) 2 2] (W.alloc (.cells #[.int .u8 255, .int .u8 254] 5)) fun e w' => e = .returned (.bool (beginsB l ⟨#[255, 254]⟩)) ∧ Below w.heap.size w w' :=
  is_lit [255, 254] p l c w W hn (by decide) hp hpa hB
theorem is_m4 (p : Option Addr) (l : List UInt8) (c : Nat) (w W : World) (hn : (l.length : Int) ≤ 1048576) (hp : Bs w p l) (hpa : ∀ a, p = some a → 0 < l.length → a.block < w.heap.size) (hB : Below w.heap.size w W) :
    Calls Tryd.prog 24 #[.slice p l.length c, .slice (some ⟨W.heap.size, 0, none⟩) 3 3] (W.alloc (.cells #[.int .u8 239, .int .u8 187, .int .u8 191] 5)) fun e w' => e = .returned (.bool (beginsB l ⟨#[239, 187, 191]⟩)) ∧ Below w.heap.size w w' :=
  is_lit [239, 187, 191] p l c w W hn (by decide) hp hpa hB

set_option maxRecDepth 100000 in
set_option maxHeartbeats 1000000 in
theorem refForm_m0 (p : Option Addr) (l : List UInt8) (cap : Nat) (w : World) (hn : (l.length : Int) ≤ 1048576) (h : Bs w p l) (hpa : ∀ a, p = some a → 0 < l.length → a.block < w.heap.size)  (h0 : beginsB l ⟨#[0, 0, 254, 255]⟩ = true) :
    Calls Tryd.prog 12 #[.slice p l.length cap] w fun e w' => e = .returned (.tuple #[.int .i64 4, .int .i64 4]) ∧ Below w.heap.size w w' := by
  go_enter Tryd.func12, Tryd.ntmps12
  go_wp2_with fail
  refine (is_m0 p l cap w _ hn h hpa (Below.refl _ _)).mono ?_
  rintro e w0 ⟨rfl, hb0⟩
  go_wp2
  go_ret2
  exact ⟨rfl, hb0⟩

set_option maxRecDepth 100000 in
set_option maxHeartbeats 1000000 in
theorem refForm_m1 (p : Option Addr) (l : List UInt8) (cap : Nat) (w : World) (hn : (l.length : Int) ≤ 1048576) (h : Bs w p l) (hpa : ∀ a, p = some a → 0 < l.length → a.block < w.heap.size) (h0 : beginsB l ⟨#[0, 0, 254, 255]⟩ = false) (h1 : beginsB l ⟨#[255, 254, 0, 0]⟩ = true) :
    Calls Tryd.prog 12 #[.slice p l.length cap] w fun e w' => e = .returned (.tuple #[.int .i64 5, .int .i64 4]) ∧ Below w.heap.size w w' := by
  go_enter Tryd.func12, Tryd.ntmps12
  go_wp2_with fail
  refine (is_m0 p l cap w _ hn h hpa (Below.refl _ _)).mono ?_
  rintro e w0 ⟨rfl, hb0⟩
  go_wp2_with fail
  refine (is_m1 p l cap w _ hn h hpa hb0).mono ?_
  rintro e w1 ⟨rfl, hb1⟩
  go_wp2
  go_ret2
  exact ⟨rfl, hb1⟩

set_option maxRecDepth 100000 in
set_option maxHeartbeats 1000000 in
theorem refForm_m2 (p : Option Addr) (l : List UInt8) (cap : Nat) (w : World) (hn : (l.length : Int) ≤ 1048576) (h : Bs w p l) (hpa : ∀ a, p = some a → 0 < l.length → a.block < w.heap.size) (h0 : beginsB l ⟨#[0, 0, 254, 255]⟩ = false) (h1 : beginsB l ⟨#[255, 254, 0, 0]⟩ = false) (h2 : beginsB l ⟨#[254, 255]⟩ = true) :
    Calls Tryd.prog 12 #[.slice p l.length cap] w fun e w' => e = .returned (.tuple #[.int .i64 2, .int .i64 2]) ∧ Below w.heap.size w w' := by
  go_enter Tryd.func12, Tryd.ntmps12
  go_wp2_with fail
  refine (is_m0 p l cap w _ hn h hpa (Below.refl _ _)).mono ?_
  rintro e w0 ⟨rfl, hb0⟩
  go_wp2_with fail
  refine (is_m1 p l cap w _ hn h hpa hb0).mono ?_
  rintro e w1 ⟨rfl, hb1⟩
  go_wp2_with fail
  refine (is_m2 p l cap w _ hn h hpa hb1).mono ?_
  rintro e w2 ⟨rfl, hb2⟩
  go_wp2
  go_ret2
  exact ⟨rfl, hb2⟩

set_option maxRecDepth 100000 in
set_option maxHeartbeats 1000000 in
theorem refForm_m3 (p : Option Addr) (l : List UInt8) (cap : Nat) (w : World) (hn : (l.length : Int) ≤ 1048576) (h : Bs w p l) (hpa : ∀ a, p = some a → 0 < l.length → a.block < w.heap.size) (h0 : beginsB l ⟨#[0, 0, 254, 255]⟩ = false) (h1 : beginsB l ⟨#[255, 254, 0, 0]⟩ = false) (h2 : beginsB l ⟨#[254, 255]⟩ = false) (h3 : beginsB l ⟨#[255, 254]⟩ = true) :
    Calls Tryd.prog 12 #[.slice p l.length cap] w fun e w' => e = .returned (.tuple #[.int .i64 3, .int .i64 2]) ∧ Below w.heap.size w w' := by
  go_enter Tryd.func12, Tryd.ntmps12
  go_wp2_with fail
  refine (is_m0 p l cap w _ hn h hpa (Below.refl _ _)).mono ?_
  rintro e w0 ⟨rfl, hb0⟩
  go_wp2_with fail
  refine (is_m1 p l cap w _ hn h hpa hb0).mono ?_
  rintro e w1 ⟨rfl, hb1⟩
  go_wp2_with fail
  refine (is_m2 p l cap w _ hn h hpa hb1).mono ?_
  rintro e w2 ⟨rfl, hb2⟩
  go_wp2_with fail
  refine (is_m3 p l cap w _ hn h hpa hb2).mono ?_
  rintro e w3 ⟨rfl, hb3⟩
  go_wp2
  go_ret2
  exact ⟨rfl, hb3⟩

set_option maxRecDepth 100000 in
set_option maxHeartbeats 1000000 in
theorem refForm_m4 (p : Option Addr) (l : List UInt8) (cap : Nat) (w : World) (hn : (l.length : Int) ≤ 1048576) (h : Bs w p l) (hpa : ∀ a, p = some a → 0 < l.length → a.block < w.heap.size) (h0 : beginsB l ⟨#[0, 0, 254, 255]⟩ = false) (h1 : beginsB l ⟨#[255, 254, 0, 0]⟩ = false) (h2 : beginsB l ⟨#[254, 255]⟩ = false) (h3 : beginsB l ⟨#[255, 254]⟩ = false) (h4 : beginsB l ⟨#[239, 187, 191]⟩ = true) :
    Calls Tryd.prog 12 #[.slice p l.length cap] w fun e w' => e = .returned (.tuple #[.int .i64 1, .int .i64 3]) ∧ Below w.heap.size w w' := by
  go_enter Tryd.func12, Tryd.ntmps12
  go_wp2_with fail
  refine (is_m0 p l cap w _ hn h hpa (Below.refl _ _)).mono ?_
  rintro e w0 ⟨rfl, hb0⟩
  go_wp2_with fail
  refine (is_m1 p l cap w _ hn h hpa hb0).mono ?_
  rintro e w1 ⟨rfl, hb1⟩
  go_wp2_with fail
  refine (is_m2 p l cap w _ hn h hpa hb1).mono ?_
  rintro e w2 ⟨rfl, hb2⟩
  go_wp2_with fail
  refine (is_m3 p l cap w _ hn h hpa hb2).mono ?_
  rintro e w3 ⟨rfl, hb3⟩
  go_wp2_with fail
  refine (is_m4 p l cap w _ hn h hpa hb3).mono ?_
  rintro e w4 ⟨rfl, hb4⟩
  go_wp2
  go_ret2
  exact ⟨rfl, hb4⟩

set_option maxRecDepth 100000 in
set_option maxHeartbeats 1000000 in
theorem refForm_long  (l : List UInt8) (cap : Nat) (x0 x1 x2 x3 : Int) (b o : Nat) (w : World) (hn : (l.length : Int) ≤ 1048576) (h4l : 4 ≤ l.length) (h : Bs w (some ⟨b, o, none⟩) l) (hpa : ∀ a : Addr, some (⟨b, o, none⟩ : Addr) = some a → 0 < l.length → a.block < w.heap.size) (c0 : ∀ W, Below w.heap.size w W → W.cell? ⟨b, o, none⟩ = some (.int .u8 x0)) (c1 : ∀ W, Below w.heap.size w W → W.cell? ⟨b, o + 1, none⟩ = some (.int .u8 x1)) (c2 : ∀ W, Below w.heap.size w W → W.cell? ⟨b, o + 2, none⟩ = some (.int .u8 x2)) (c3 : ∀ W, Below w.heap.size w W → W.cell? ⟨b, o + 3, none⟩ = some (.int .u8 x3)) (h0 : beginsB l ⟨#[0, 0, 254, 255]⟩ = false) (h1 : beginsB l ⟨#[255, 254, 0, 0]⟩ = false) (h2 : beginsB l ⟨#[254, 255]⟩ = false) (h3 : beginsB l ⟨#[255, 254]⟩ = false) (h4 : beginsB l ⟨#[239, 187, 191]⟩ = false) :
    Calls Tryd.prog 12 #[.slice (some ⟨b, o, none⟩) l.length cap] w fun e w' => e = .returned (.tuple #[.int .i64 (guess4 x0 x1 x2 x3), .int .i64 0]) ∧ Below w.heap.size w w' := by
  go_enter Tryd.func12, Tryd.ntmps12
  go_wp2_with fail
  refine (is_m0 (some ⟨b, o, none⟩) l cap w _ hn h hpa (Below.refl _ _)).mono ?_
  rintro e w0 ⟨rfl, hb0⟩
  go_wp2_with fail
  refine (is_m1 (some ⟨b, o, none⟩) l cap w _ hn h hpa hb0).mono ?_
  rintro e w1 ⟨rfl, hb1⟩
  go_wp2_with fail
  refine (is_m2 (some ⟨b, o, none⟩) l cap w _ hn h hpa hb1).mono ?_
  rintro e w2 ⟨rfl, hb2⟩
  go_wp2_with fail
  refine (is_m3 (some ⟨b, o, none⟩) l cap w _ hn h hpa hb2).mono ?_
  rintro e w3 ⟨rfl, hb3⟩
  go_wp2_with fail
  refine (is_m4 (some ⟨b, o, none⟩) l cap w _ hn h hpa hb3).mono ?_
  rintro e w4 ⟨rfl, hb4⟩
  have e0 := c0 w4 hb4
  have e1 := c1 w4 hb4
  have e2 := c2 w4 hb4
  have e3 := c3 w4 hb4
  clear c0 c1 c2 c3
  go_wp2
  all_goals
    go_ret2
    refine ⟨ret2_int ?_ rfl, hb4⟩
    unfold guess4
    simp_all

set_option maxRecDepth 100000 in
set_option maxHeartbeats 1000000 in
theorem refForm_mid  (l : List UInt8) (cap : Nat) (x0 x1 : Int) (b o : Nat) (w : World) (hn : (l.length : Int) ≤ 1048576) (h2l : 2 ≤ l.length) (h4l : l.length < 4) (h : Bs w (some ⟨b, o, none⟩) l) (hpa : ∀ a : Addr, some (⟨b, o, none⟩ : Addr) = some a → 0 < l.length → a.block < w.heap.size) (c0 : ∀ W, Below w.heap.size w W → W.cell? ⟨b, o, none⟩ = some (.int .u8 x0)) (c1 : ∀ W, Below w.heap.size w W → W.cell? ⟨b, o + 1, none⟩ = some (.int .u8 x1)) (h0 : beginsB l ⟨#[0, 0, 254, 255]⟩ = false) (h1 : beginsB l ⟨#[255, 254, 0, 0]⟩ = false) (h2 : beginsB l ⟨#[254, 255]⟩ = false) (h3 : beginsB l ⟨#[255, 254]⟩ = false) (h4 : beginsB l ⟨#[239, 187, 191]⟩ = false) :
    Calls Tryd.prog 12 #[.slice (some ⟨b, o, none⟩) l.length cap] w fun e w' => e = .returned (.tuple #[.int .i64 (guess2 x0 x1), .int .i64 0]) ∧ Below w.heap.size w w' := by
  go_enter Tryd.func12, Tryd.ntmps12
  go_wp2_with fail
  refine (is_m0 (some ⟨b, o, none⟩) l cap w _ hn h hpa (Below.refl _ _)).mono ?_
  rintro e w0 ⟨rfl, hb0⟩
  go_wp2_with fail
  refine (is_m1 (some ⟨b, o, none⟩) l cap w _ hn h hpa hb0).mono ?_
  rintro e w1 ⟨rfl, hb1⟩
  go_wp2_with fail
  refine (is_m2 (some ⟨b, o, none⟩) l cap w _ hn h hpa hb1).mono ?_
  rintro e w2 ⟨rfl, hb2⟩
  go_wp2_with fail
  refine (is_m3 (some ⟨b, o, none⟩) l cap w _ hn h hpa hb2).mono ?_
  rintro e w3 ⟨rfl, hb3⟩
  go_wp2_with fail
  refine (is_m4 (some ⟨b, o, none⟩) l cap w _ hn h hpa hb3).mono ?_
  rintro e w4 ⟨rfl, hb4⟩
  have e0 := c0 w4 hb4
  have e1 := c1 w4 hb4
  clear c0 c1
  go_wp2
  all_goals
    go_ret2
    refine ⟨ret2_int ?_ rfl, hb4⟩
    unfold guess2
    simp_all

set_option maxRecDepth 100000 in
set_option maxHeartbeats 1000000 in
theorem refForm_short (p : Option Addr) (l : List UInt8) (cap : Nat)  (w : World) (hn : (l.length : Int) ≤ 1048576) (h2l : l.length < 2) (h : Bs w p l) (hpa : ∀ a, p = some a → 0 < l.length → a.block < w.heap.size)  (h0 : beginsB l ⟨#[0, 0, 254, 255]⟩ = false) (h1 : beginsB l ⟨#[255, 254, 0, 0]⟩ = false) (h2 : beginsB l ⟨#[254, 255]⟩ = false) (h3 : beginsB l ⟨#[255, 254]⟩ = false) (h4 : beginsB l ⟨#[239, 187, 191]⟩ = false) :
    Calls Tryd.prog 12 #[.slice p l.length cap] w fun e w' => e = .returned (.tuple #[.int .i64 (1), .int .i64 0]) ∧ Below w.heap.size w w' := by
  go_enter Tryd.func12, Tryd.ntmps12
  go_wp2_with fail
  refine (is_m0 p l cap w _ hn h hpa (Below.refl _ _)).mono ?_
  rintro e w0 ⟨rfl, hb0⟩
  go_wp2_with fail
  refine (is_m1 p l cap w _ hn h hpa hb0).mono ?_
  rintro e w1 ⟨rfl, hb1⟩
  go_wp2_with fail
  refine (is_m2 p l cap w _ hn h hpa hb1).mono ?_
  rintro e w2 ⟨rfl, hb2⟩
  go_wp2_with fail
  refine (is_m3 p l cap w _ hn h hpa hb2).mono ?_
  rintro e w3 ⟨rfl, hb3⟩
  go_wp2_with fail
  refine (is_m4 p l cap w _ hn h hpa hb3).mono ?_
  rintro e w4 ⟨rfl, hb4⟩
  go_wp2
  go_ret2
  exact ⟨rfl, hb4⟩

theorem refForm_any (p : Option Addr) (l : List UInt8) (cap : Nat) (w : World) (hn : (l.length : Int) ≤ 1048576) (h : Bs w p l) (hpa : ∀ a, p = some a → 0 < l.length → a.block < w.heap.size) :
    Calls Tryd.prog 12 #[.slice p l.length cap] w fun e w' => e = .returned (.tuple #[.int .i64 (formP l).1, .int .i64 (formP l).2]) ∧ Below w.heap.size w w' := by
  by_cases h0 : beginsB l ⟨#[0, 0, 254, 255]⟩ = true
  · have hm : markedP l = (4, 4) := by unfold markedP; rw [if_pos h0]
    have hf : formP l = (4, 4) := by unfold formP; rw [hm]; rfl
    rw [hf]; exact refForm_m0 p l cap w hn h hpa h0
  by_cases h1 : beginsB l ⟨#[255, 254, 0, 0]⟩ = true
  · have hm : markedP l = (5, 4) := by unfold markedP; rw [if_neg h0, if_pos h1]
    have hf : formP l = (5, 4) := by unfold formP; rw [hm]; rfl
    rw [hf]; exact refForm_m1 p l cap w hn h hpa (by simpa using h0) h1
  by_cases h2 : beginsB l ⟨#[254, 255]⟩ = true
  · have hm : markedP l = (2, 2) := by unfold markedP; rw [if_neg h0, if_neg h1, if_pos h2]
    have hf : formP l = (2, 2) := by unfold formP; rw [hm]; rfl
    rw [hf]; exact refForm_m2 p l cap w hn h hpa (by simpa using h0) (by simpa using h1) h2
  by_cases h3 : beginsB l ⟨#[255, 254]⟩ = true
  · have hm : markedP l = (3, 2) := by unfold markedP; rw [if_neg h0, if_neg h1, if_neg h2, if_pos h3]
    have hf : formP l = (3, 2) := by unfold formP; rw [hm]; rfl
    rw [hf]; exact refForm_m3 p l cap w hn h hpa (by simpa using h0) (by simpa using h1) (by simpa using h2) h3
  by_cases h4 : beginsB l ⟨#[239, 187, 191]⟩ = true
  · have hm : markedP l = (1, 3) := by unfold markedP; rw [if_neg h0, if_neg h1, if_neg h2, if_neg h3, if_pos h4]
    have hf : formP l = (1, 3) := by unfold formP; rw [hm]; rfl
    rw [hf]; exact refForm_m4 p l cap w hn h hpa (by simpa using h0) (by simpa using h1) (by simpa using h2) (by simpa using h3) h4
  have hm : markedP l = (0, 0) := by unfold markedP; rw [if_neg h0, if_neg h1, if_neg h2, if_neg h3, if_neg h4]
  have hf : formP l = (guessedP l, 0) := by unfold formP; rw [hm]; rfl
  rw [hf]
  by_cases g2 : 2 ≤ l.length
  · obtain ⟨b, o, rfl, hc⟩ := h.at (by omega)
    have hw : ∀ (W : World) j, Below w.heap.size w W → j < l.length → W.cell? ⟨b, o + j, none⟩ = some (.int .u8 (byteAt l j)) := fun W j hB hj => (hB.cell (p := ⟨b, o + j, none⟩) (hpa ⟨b, o, none⟩ rfl (by omega))).trans (hc j hj)
    by_cases g4 : 4 ≤ l.length
    · refine (refForm_long l cap _ _ _ _ b o w hn g4 h hpa (fun W hB => hw W 0 hB (by omega)) (fun W hB => hw W 1 hB (by omega)) (fun W hB => hw W 2 hB (by omega)) (fun W hB => hw W 3 hB (by omega)) (by simpa using h0) (by simpa using h1) (by simpa using h2) (by simpa using h3) (by simpa using h4)).mono ?_
      rintro e w' ⟨rfl, hb⟩
      exact ⟨ret2_int (by unfold guess4 guessedP; simp [g2, g4]) rfl, hb⟩
    · refine (refForm_mid l cap _ _ b o w hn g2 (by omega) h hpa (fun W hB => hw W 0 hB (by omega)) (fun W hB => hw W 1 hB (by omega)) (by simpa using h0) (by simpa using h1) (by simpa using h2) (by simpa using h3) (by simpa using h4)).mono ?_
      rintro e w' ⟨rfl, hb⟩
      exact ⟨ret2_int (by unfold guess2 guessedP; simp [g2, g4]) rfl, hb⟩
  · refine (refForm_short p l cap w hn (by omega) h hpa (by simpa using h0) (by simpa using h1) (by simpa using h2) (by simpa using h3) (by simpa using h4)).mono ?_
    rintro e w' ⟨rfl, hb⟩
    exact ⟨ret2_int (by unfold guessedP; simp [g2, show ¬ 4 ≤ l.length by omega]) rfl, hb⟩
end Go.Proofs.YtdkodepeglpimaaDoor
