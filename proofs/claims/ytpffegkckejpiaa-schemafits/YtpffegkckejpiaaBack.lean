/- slices.Backward over a list of bytes: for every body it tells the places and digits, the last one first. -/
import Derived.Test.YtpffegkckejpiaaTimes
import Derived.RangeFuncNested
import Derived.RangeFuncBound
import Derived.RangeFuncCalls
import Derived.RangeFuncLeaves
import Derived.Shelf.Abstract
import Derived.Shelf.RegionOpen
import Derived.OwnWalkIn
import Derived.TacticsInMore
import Derived.LoopNIn
import Derived.LoopIn
import Derived.Maps.AppendAt
import Derived.Stop.RegionWithIn
set_option linter.unusedVariables false
set_option linter.unusedSimpArgs false
namespace Go.Proofs.Ytpffegkckejpiaa
open Go.RowKit Go.Shelf
attribute [local go_sem] Oper.semAt_some

/-- A place of the list. -/
abbrev Pl (L : List Nat) : Type := { i : Nat // i < L.length }
def encB (L : List Nat) (x : Pl L) : Array Value := #[.int .i64 (x.1 : Nat), .int .u8 (nAt L x.1 : Nat)]
/-- The places below k, the last one first. -/
def down : Nat → List Nat
  | 0 => []
  | k + 1 => k :: down k
theorem down_len (k : Nat) : (down k).length = k := by induction k with | zero => rfl | succ k ih => simp [down, ih]

/-- What a round keeps: all that lay below n₀, and the iterator's box. -/
def Kp (n₀ Bb : Nat) (A B : World) : Prop := Below n₀ A B ∧ B.heap[Bb]? = A.heap[Bb]?
theorem Kp.cellB {n₀ Bb : Nat} {A B : World} (h : Kp n₀ Bb A B) (o : Nat) : B.cell? ⟨Bb, o, none⟩ = A.cell? ⟨Bb, o, none⟩ := World.cell?_of_block h.2
theorem Kp.trans {n₀ Bb : Nat} {A B C : World} (h : Kp n₀ Bb A B) (k : Kp n₀ Bb B C) : Kp n₀ Bb A C := ⟨h.1.trans k.1, k.2.trans h.2⟩
theorem Kp.refl (n₀ Bb : Nat) (A : World) : Kp n₀ Bb A A := ⟨Below.refl _ _, rfl⟩
theorem hKb1 {w : World} {n₀ Bb : Nat} (hb : Bb < w.heap.size) (hn : n₀ ≤ w.heap.size) (W : World) (l : Nat) (o o' : Obj) (hl : w.heap.size ≤ l) (h : W.heap[l]? = some o) (h1 : o.isCells = false) (h2 : o.isWalk = false) : Kp n₀ Bb W (W.putObj l o') :=
  ⟨belowK_b hn W l o o' hl h h1 h2, World.putObj_heap_other (by omega)⟩

set_option maxHeartbeats 1000000 in
theorem backward_in (n : Nat) (p : Option Addr) (len cap : Nat) (w : World) :
    CallsIn Fence.wide n Try.prog 69 #[.slice p len cap] w fun e w' => e = .returned (.func (.func 78) #[] #[.pointer (some ⟨w.heap.size, 0, none⟩)]) ∧ w' = w.alloc (.cells #[.slice p len cap] 62) := by
  refine callsIn_of_wp Try.func69 rfl trivial ?_ rfl
  simp only [Try.ntmps69, List.size_toArray, List.length_cons, List.length_nil, Nat.reduceAdd, Nat.reduceSub, Array.replicate_succ, Array.replicate_zero, List.push_toArray, List.append_toArray, List.nil_append, List.cons_append]
  gi_wp2
  go_ret
  exact ⟨rfl, rfl⟩

set_option maxRecDepth 100000 in
set_option maxHeartbeats 1600000 in
theorem back1_in (n : Nat) (hn : 1 ≤ n) (l Bb n₀ cap : Nat) (p : Option Addr) (L : List Nat) (hl : (L.length : Int) ≤ 4611686018427387904)
    (J Jx : List (Pl L) → World → Prop) (W : World) (hn₀ : n₀ ≤ W.heap.size) (hJ : AbidesFrom W.heap.size J)
    (hY : ∀ pre x W1, J pre W1 → pre.length < L.length → YieldAt Fence.wide (n - 1) Try.prog l (encB L x) W1 fun e W' =>
      (e = .returned (.bool true) ∧ J (pre ++ [x]) W' ∧ Kp n₀ Bb W1 W') ∨ (e = .returned (.bool false) ∧ Jx (pre ++ [x]) W'))
    (hBb : W.cell? ⟨Bb, 0, none⟩ = some (.slice p L.length cap)) (hI : Rd .u8 W p L) (hb : ∀ a, p = some a → 0 < L.length → a.block < n₀) (h0 : J [] W) :
    CallsIn Fence.wide n Try.prog 78 #[.func (.yield l) #[] #[], .pointer (some ⟨Bb, 0, none⟩)] W fun e W' => (∃ v, e = .returned v) ∧
      ((∃ ys : List (Pl L), ys.map (·.1) = down L.length ∧ J ys W') ∨ (∃ pre : List (Pl L), pre.map (·.1) <+: down L.length ∧ Jx pre W')) := by
  refine callsIn_of_wp Try.func78 rfl trivial ?_ rfl
  simp only [Try.ntmps78, List.size_toArray, List.length_cons, List.length_nil, Nat.reduceAdd, Nat.reduceSub, Array.replicate_succ, Array.replicate_zero, List.push_toArray, List.append_toArray, List.nil_append, List.cons_append]
  gi_wp2
  gi_loopw [3] (fun iv wr => ∃ (k : Nat) (pre : List (Pl L)), k ≤ L.length ∧ iv = .int .i64 ((k : Int) - 1) ∧ pre.length + k ≤ L.length ∧ Hid (down L.length = pre.map (·.1) ++ down k) ∧ J pre wr ∧ Kp n₀ Bb W wr)
    (fun iv _ => (intOf iv + 1).toNat)
  case atStart => exact ⟨L.length, [], Nat.le_refl _, rfl, by simp, rfl, h0, Kp.refl _ _ _⟩
  case round =>
    obtain ⟨k, pre, hk, rfl, hpk, Hs, hJs, hK⟩ := hrel
    have cB := (hK.cellB 0).trans hBb
    cases k with
    | zero =>
      have h00 : ¬ (0 : Int) ≤ ((0 : Nat) : Int) - 1 := by omega
      have HS : Hid (down L.length = pre.map (·.1)) := by have := Hs.out; rw [down, List.append_nil] at this; exact this
      clear hY hJ
      gi_wp2
      go_end0
      exact ⟨⟨_, rfl⟩, .inl ⟨pre, HS.out.symm, hJs⟩⟩
    | succ j =>
      have hj : j < L.length := by omega
      have hi : (((j + 1 : Nat) : Int) - 1) = (j : Int) := by omega
      have h00 : (0 : Int) ≤ j := by omega
      have hli : (j : Int) < L.length := by omega
      have hIr : Rd .u8 wr p L := hI.below hb hK.1
      obtain ⟨b, o, rfl, hcell⟩ := hIr.at (by omega)
      have c0 := hcell j hj
      obtain ⟨y, hy1⟩ : ∃ y : Pl L, y.1 = j := ⟨⟨j, hj⟩, rfl⟩
      have HS : Hid (down L.length = (pre ++ [y]).map (·.1) ++ down j) := by have := Hs.out; rw [down] at this; show _ = _; rw [this]; simp [hy1]
      have Y := hY pre y wr hJs (by omega)
      simp only [encB, hy1] at Y
      obtain ⟨fn, tmps, assign, body, hy, hR⟩ := Y
      rw [hi]
      generalize nAt L j = d at c0 hy
      clear hY hJ hy1 hcell hIr Hs hi
      gi_wp2
      refine hR.mono ?_
      rintro e3 W3 (⟨rfl, hJ3, hk3⟩ | ⟨rfl, hJx3⟩)
      · clear hR hy
        gi_wp2
        go_roundw
        case rel => exact ⟨j, pre ++ [y], by omega, by go_num, by simp; omega, HS, hJ3, hK.trans hk3⟩
        case measure => simp [intOf] <;> omega
      · gi_wp2
        refine bodyPost_ret (results_none rfl _ _ _) rfl ?_
        exact ⟨⟨_, rfl⟩, .inr ⟨_, ⟨_, HS.out.symm⟩, hJx3⟩⟩

theorem back_stops (n : Nat) (hn : 1 ≤ n) (Bb n₀ cap : Nat) (p : Option Addr) (L : List Nat) (hl : (L.length : Int) ≤ 4611686018427387904) (w : World) (hBb : Bb < w.heap.size) (hn₀ : n₀ ≤ w.heap.size)
    (cB : w.cell? ⟨Bb, 0, none⟩ = some (.slice p L.length cap)) (hI : Rd .u8 w p L) (hb : ∀ a, p = some a → 0 < L.length → a.block < n₀) :
    SeqStopsK Fence.wide n Try.prog 78 #[.pointer (some ⟨Bb, 0, none⟩)] (encB L) (Kp n₀ Bb) (fun ys => ys.map (·.1) = down L.length) (fun pre => pre.map (·.1) <+: down L.length) L.length w := fun l J Jx W hW hJ _ hY h0 =>
  back1_in n hn l Bb n₀ cap p L hl J Jx W (Nat.le_trans hn₀ hW.size) hJ hY ((hW.cell (p := ⟨Bb, 0, none⟩) hBb).trans cB) (hI.on hW) hb h0
end Go.Proofs.Ytpffegkckejpiaa
