/- The document's units: bytes by twos and by fours. -/
import Derived.Test.YtdkodepeglpimaaDoorSmall
set_option linter.unusedVariables false
set_option linter.unusedSimpArgs false
namespace Go.Proofs.YtdkodepeglpimaaDoor
open Go.RowKit Go.Shelf

theorem ret_vb {v : Value} {a b : Bool} (h : a = b) : Ending.returned (.tuple #[v, .bool a]) = .returned (.tuple #[v, .bool b]) := by rw [h]

def units2 (great : Bool) (l : List UInt8) (k : Nat) : List Int := (List.range k).map fun j => (u16 great (bt l (2 * j)) (bt l (2 * j + 1)) : Int)
def units4 (great : Bool) (l : List UInt8) (k : Nat) : List Int := (List.range k).map fun j => (u32 great (bt l (4 * j)) (bt l (4 * j + 1)) (bt l (4 * j + 2)) (bt l (4 * j + 3)) : Int)
theorem units2_succ (great : Bool) (l : List UInt8) (k : Nat) : units2 great l (k + 1) = units2 great l k ++ [(u16 great (bt l (2 * k)) (bt l (2 * k + 1)) : Int)] := by unfold units2; simp [List.range_succ]
theorem units4_succ (great : Bool) (l : List UInt8) (k : Nat) : units4 great l (k + 1) = units4 great l k ++ [(u32 great (bt l (4 * k)) (bt l (4 * k + 1)) (bt l (4 * k + 2)) (bt l (4 * k + 3)) : Int)] := by unfold units4; simp [List.range_succ]
theorem units2_len (great : Bool) (l : List UInt8) (k : Nat) : (units2 great l k).length = k := by unfold units2; simp
theorem units4_len (great : Bool) (l : List UInt8) (k : Nat) : (units4 great l k).length = k := by unfold units4; simp

theorem or_i64 (n x m i : Nat) (hm : m = 2 ^ i) (hm2 : m ≤ 16777216) (hx : x < m) (hn : n * m < 4294967296) : bits .or .i64 ((n : Int) * m) (x : Int) = (n : Int) * m + x := by
  rw [show ((n : Int) * m) = ((n * m : Nat) : Int) from by simp, i64_or_nat _ _ hn (by omega), or_mul x n i m hm hx]
  simp
theorem or_zero (x : Nat) (hx : x < 256) : bits .or .i64 0 (x : Int) = (x : Int) := by
  have := i64_or_nat 0 x (by omega) (by omega)
  simpa using this
theorem or_rev (n x m i : Nat) (hm : m = 2 ^ i) (hm2 : m ≤ 16777216) (hn : n < m) (hx : x * m < 4294967296) : bits .or .i64 (n : Int) ((x : Int) * m) = (n : Int) + (x : Int) * m := by
  rw [show ((x : Int) * m) = ((x * m : Nat) : Int) from by simp, i64_or_nat _ _ (by omega) hx, Nat.or_comm, or_mul n x i m hm hn]
  simp; omega

set_option maxRecDepth 100000 in
set_option maxHeartbeats 2000000 in
theorem units2_true (p : Option Addr) (l : List UInt8) (cap : Nat) (w : World) (hl : (l.length : Int) ≤ 1048576) (h : Bs w p l) (hpa : ∀ a, p = some a → 0 < l.length → a.block < w.heap.size) :
    Calls Tryd.prog 19 #[.slice p l.length cap, .int .i64 2, .bool true] w fun e w' => ∃ v, e = .returned (.tuple #[v, .bool (decide (l.length % 2 = 0))]) ∧ w'.ownsRow w.heap.size 3 1 v (l.length / 2) ((units2 true l (l.length / 2)).map (.int .i64)) ∧ Below w.heap.size w w' := by
  obtain ⟨i0, hi, hz0, hz1, hz2⟩ := info_parts Tryd.info3
  obtain ⟨d, hd⟩ : ∃ d, decide (l.length % 2 = 0) = d := ⟨_, rfl⟩
  rw [hd]
  have HD : Hid (decide (l.length % 2 = 0) = d) := hd
  clear hd
  go_enter Tryd.func19, Tryd.ntmps19
  go_wp2
  go_loopw [8, 9] (fun v t wr => ∃ (k i : Nat), i ≤ l.length ∧ k ≤ i ∧ t = .int .i64 i ∧ Hid (i = 2 * k) ∧ wr.ownsRow w.heap.size 3 1 v k ((units2 true l k).map (.int .i64)) ∧ Below w.heap.size w wr) (fun _ t _ => l.length - (intOf t).toNat)
  case atStart => exact ⟨0, 0, Nat.zero_le _, Nat.le_refl _, rfl, rfl, World.ownsRow_nil _ _ _ _, Below.refl _ _⟩
  case round =>
    obtain ⟨k, i, hil, hki, rfl, HI, hrow, hB⟩ := hrel
    have hBs := hB.size
    by_cases hlt : i + 2 ≤ l.length
    · obtain ⟨b, o, rfl, hcl⟩ := h.at (by omega)
      have hcw : ∀ j, j < l.length → wr.cell? ⟨b, o + j, none⟩ = some (.int .u8 (bt l j)) := fun j hj => (hB.cell (p := ⟨b, o + j, none⟩) (hpa ⟨b, o, none⟩ rfl (by omega))).trans (hcl j hj)
      have q0 := hcw i (by omega)
      have l0 := bt_lt l i
      have q1 := hcw (i + 1) (by omega)
      have l1 := bt_lt l (i + 1)
      have hlt' : (i : Int) + 2 ≤ l.length := by omega
      have HU : Hid (units2 true l (k + 1) = units2 true l k ++ [(Go.Proofs.YtdkodepeglpimaaDoor.u16 true (bt l i) (bt l (i + 1)) : Int)]) := by
        show units2 true l (k + 1) = _
        rw [units2_succ, HI.out]
      clear hcl hcw h
      generalize bt l i = x0 at q0 l0 HU
      generalize bt l (i + 1) = x1 at q1 l1 HU
      have r0 : bits .or .i64 (((x0 : Int)) * 256) (x1 : Int) = ((x0 : Int)) * 256 + x1 := by
        have := or_i64 (x0) x1 256 8 (by decide) (by decide) l1 (by omega)
        simpa using this
      have rz := or_zero x0 l0
      have HV : Hid ((((x0) * 256 + x1 : Int)) = ((Go.Proofs.YtdkodepeglpimaaDoor.u16 true x0 x1 : Nat) : Int)) := by show ((x0) * 256 + x1 : Int) = _; simp [Go.Proofs.YtdkodepeglpimaaDoor.u16]; try omega
      go_wp2
      go_loop [10, 11] (fun c t => (t = .int .i64 0 ∧ c = .int .i64 (0)) ∨ (t = .int .i64 1 ∧ c = .int .i64 (x0)) ∨ (t = .int .i64 2 ∧ c = .int .i64 ((x0) * 256 + x1))) (fun _ t => 2 - (intOf t).toNat)
      case atStart => exact .inl ⟨rfl, rfl⟩
      case round =>
        rcases hrel with ⟨rfl, rfl⟩ | ⟨rfl, rfl⟩ | ⟨rfl, rfl⟩
        · go_wp2
          go_round
          case rel => exact .inr (.inl ⟨rfl, by first | rfl | go_num⟩)
          case measure => simp [intOf]
        · go_wp2
          go_round
          case rel => exact .inr (.inr (⟨rfl, by first | rfl | go_num⟩))
          case measure => simp [intOf]
        · go_wp2_with (at_builtin; refine wpList_append_own _ rfl _ _ 24 rfl w.heap.size 3 i0 (.int .i64 0) 1 8 Tryd.underlying24 hi hz0 hz1 hz2 rfl (by decide) _ _ _ rfl (hrow.alloc _) ⟨wr.heap.size, 0, none⟩ 1 1 [.int .i64 ((x0) * 256 + x1)] rfl rfl (cell_one_new _ _ _) (by simp [Value.oneCell']) (by unfold maxLen; omega) (by omega) (by simp; omega) ?_; intro v' w1 hown' hgrow _)
          go_roundw
          case rel => exact ⟨k + 1, i + 2, by omega, by omega, by go_num, (by have := HI.out; show i + 2 = 2 * (k + 1); omega), (by rw [HU.out, ← HV.out]; simpa using hown'), ((hB.alloc hBs _).grown hgrow (by simp; omega) (fun j e => (hrow.lt j e).1))⟩
          case measure => simp [intOf]; omega
    · have hk : k = l.length / 2 := by have := HI.out; omega
      have hlt' : (l.length : Int) < (i : Int) + 2 := by omega
      have hrow' : wr.ownsRow w.heap.size 3 1 u8 (l.length / 2) ((units2 true l (l.length / 2)).map (.int .i64)) := hk ▸ hrow
      clear h hk hrow
      go_wp2
      go_quiet (fail)
      go_wp2
      go_ret2
      exact ⟨_, ret_vb (by rw [← HD.out, Bool.eq_iff_iff]; simp; omega), hrow', below_drewN hB _⟩

set_option maxRecDepth 100000 in
set_option maxHeartbeats 2000000 in
theorem units2_false (p : Option Addr) (l : List UInt8) (cap : Nat) (w : World) (hl : (l.length : Int) ≤ 1048576) (h : Bs w p l) (hpa : ∀ a, p = some a → 0 < l.length → a.block < w.heap.size) :
    Calls Tryd.prog 19 #[.slice p l.length cap, .int .i64 2, .bool false] w fun e w' => ∃ v, e = .returned (.tuple #[v, .bool (decide (l.length % 2 = 0))]) ∧ w'.ownsRow w.heap.size 3 1 v (l.length / 2) ((units2 false l (l.length / 2)).map (.int .i64)) ∧ Below w.heap.size w w' := by
  obtain ⟨i0, hi, hz0, hz1, hz2⟩ := info_parts Tryd.info3
  obtain ⟨d, hd⟩ : ∃ d, decide (l.length % 2 = 0) = d := ⟨_, rfl⟩
  rw [hd]
  have HD : Hid (decide (l.length % 2 = 0) = d) := hd
  clear hd
  go_enter Tryd.func19, Tryd.ntmps19
  go_wp2
  go_loopw [8, 9] (fun v t wr => ∃ (k i : Nat), i ≤ l.length ∧ k ≤ i ∧ t = .int .i64 i ∧ Hid (i = 2 * k) ∧ wr.ownsRow w.heap.size 3 1 v k ((units2 false l k).map (.int .i64)) ∧ Below w.heap.size w wr) (fun _ t _ => l.length - (intOf t).toNat)
  case atStart => exact ⟨0, 0, Nat.zero_le _, Nat.le_refl _, rfl, rfl, World.ownsRow_nil _ _ _ _, Below.refl _ _⟩
  case round =>
    obtain ⟨k, i, hil, hki, rfl, HI, hrow, hB⟩ := hrel
    have hBs := hB.size
    by_cases hlt : i + 2 ≤ l.length
    · obtain ⟨b, o, rfl, hcl⟩ := h.at (by omega)
      have hcw : ∀ j, j < l.length → wr.cell? ⟨b, o + j, none⟩ = some (.int .u8 (bt l j)) := fun j hj => (hB.cell (p := ⟨b, o + j, none⟩) (hpa ⟨b, o, none⟩ rfl (by omega))).trans (hcl j hj)
      have q0 := hcw i (by omega)
      have l0 := bt_lt l i
      have q1 := hcw (i + 1) (by omega)
      have l1 := bt_lt l (i + 1)
      have hlt' : (i : Int) + 2 ≤ l.length := by omega
      have HU : Hid (units2 false l (k + 1) = units2 false l k ++ [(Go.Proofs.YtdkodepeglpimaaDoor.u16 false (bt l i) (bt l (i + 1)) : Int)]) := by
        show units2 false l (k + 1) = _
        rw [units2_succ, HI.out]
      clear hcl hcw h
      generalize bt l i = x0 at q0 l0 HU
      generalize bt l (i + 1) = x1 at q1 l1 HU
      have r0 : bits .or .i64 ((x0 : Int)) ((x1 : Int) * 256) = (x0 : Int) + (x1 : Int) * 256 := by
        have := or_rev (x0) x1 256 8 (by decide) (by decide) (by omega) (by omega)
        simpa using this
      have rz := or_zero x0 l0
      have HV : Hid (((x0 + x1 * 256 : Int)) = ((Go.Proofs.YtdkodepeglpimaaDoor.u16 false x0 x1 : Nat) : Int)) := by show (x0 + x1 * 256 : Int) = _; simp [Go.Proofs.YtdkodepeglpimaaDoor.u16]; try omega
      go_wp2
      go_loop [10, 11] (fun c t => (t = .int .i64 0 ∧ c = .int .i64 (0)) ∨ (t = .int .i64 1 ∧ c = .int .i64 (x0)) ∨ (t = .int .i64 2 ∧ c = .int .i64 (x0 + x1 * 256))) (fun _ t => 2 - (intOf t).toNat)
      case atStart => exact .inl ⟨rfl, rfl⟩
      case round =>
        rcases hrel with ⟨rfl, rfl⟩ | ⟨rfl, rfl⟩ | ⟨rfl, rfl⟩
        · go_wp2
          go_round
          case rel => exact .inr (.inl ⟨rfl, by first | rfl | go_num⟩)
          case measure => simp [intOf]
        · go_wp2
          go_round
          case rel => exact .inr (.inr (⟨rfl, by first | rfl | go_num⟩))
          case measure => simp [intOf]
        · go_wp2_with (at_builtin; refine wpList_append_own _ rfl _ _ 24 rfl w.heap.size 3 i0 (.int .i64 0) 1 8 Tryd.underlying24 hi hz0 hz1 hz2 rfl (by decide) _ _ _ rfl (hrow.alloc _) ⟨wr.heap.size, 0, none⟩ 1 1 [.int .i64 (x0 + x1 * 256)] rfl rfl (cell_one_new _ _ _) (by simp [Value.oneCell']) (by unfold maxLen; omega) (by omega) (by simp; omega) ?_; intro v' w1 hown' hgrow _)
          go_roundw
          case rel => exact ⟨k + 1, i + 2, by omega, by omega, by go_num, (by have := HI.out; show i + 2 = 2 * (k + 1); omega), (by rw [HU.out, ← HV.out]; simpa using hown'), ((hB.alloc hBs _).grown hgrow (by simp; omega) (fun j e => (hrow.lt j e).1))⟩
          case measure => simp [intOf]; omega
    · have hk : k = l.length / 2 := by have := HI.out; omega
      have hlt' : (l.length : Int) < (i : Int) + 2 := by omega
      have hrow' : wr.ownsRow w.heap.size 3 1 u8 (l.length / 2) ((units2 false l (l.length / 2)).map (.int .i64)) := hk ▸ hrow
      clear h hk hrow
      go_wp2
      go_quiet (fail)
      go_wp2
      go_ret2
      exact ⟨_, ret_vb (by rw [← HD.out, Bool.eq_iff_iff]; simp; omega), hrow', below_drewN hB _⟩

set_option maxRecDepth 100000 in
set_option maxHeartbeats 2000000 in
theorem units4_true (p : Option Addr) (l : List UInt8) (cap : Nat) (w : World) (hl : (l.length : Int) ≤ 1048576) (h : Bs w p l) (hpa : ∀ a, p = some a → 0 < l.length → a.block < w.heap.size) :
    Calls Tryd.prog 19 #[.slice p l.length cap, .int .i64 4, .bool true] w fun e w' => ∃ v, e = .returned (.tuple #[v, .bool (decide (l.length % 4 = 0))]) ∧ w'.ownsRow w.heap.size 3 1 v (l.length / 4) ((units4 true l (l.length / 4)).map (.int .i64)) ∧ Below w.heap.size w w' := by
  obtain ⟨i0, hi, hz0, hz1, hz2⟩ := info_parts Tryd.info3
  obtain ⟨d, hd⟩ : ∃ d, decide (l.length % 4 = 0) = d := ⟨_, rfl⟩
  rw [hd]
  have HD : Hid (decide (l.length % 4 = 0) = d) := hd
  clear hd
  go_enter Tryd.func19, Tryd.ntmps19
  go_wp2
  go_loopw [8, 9] (fun v t wr => ∃ (k i : Nat), i ≤ l.length ∧ k ≤ i ∧ t = .int .i64 i ∧ Hid (i = 4 * k) ∧ wr.ownsRow w.heap.size 3 1 v k ((units4 true l k).map (.int .i64)) ∧ Below w.heap.size w wr) (fun _ t _ => l.length - (intOf t).toNat)
  case atStart => exact ⟨0, 0, Nat.zero_le _, Nat.le_refl _, rfl, rfl, World.ownsRow_nil _ _ _ _, Below.refl _ _⟩
  case round =>
    obtain ⟨k, i, hil, hki, rfl, HI, hrow, hB⟩ := hrel
    have hBs := hB.size
    by_cases hlt : i + 4 ≤ l.length
    · obtain ⟨b, o, rfl, hcl⟩ := h.at (by omega)
      have hcw : ∀ j, j < l.length → wr.cell? ⟨b, o + j, none⟩ = some (.int .u8 (bt l j)) := fun j hj => (hB.cell (p := ⟨b, o + j, none⟩) (hpa ⟨b, o, none⟩ rfl (by omega))).trans (hcl j hj)
      have q0 := hcw i (by omega)
      have l0 := bt_lt l i
      have q1 := hcw (i + 1) (by omega)
      have l1 := bt_lt l (i + 1)
      have q2 := hcw (i + 2) (by omega)
      have l2 := bt_lt l (i + 2)
      have q3 := hcw (i + 3) (by omega)
      have l3 := bt_lt l (i + 3)
      have hlt' : (i : Int) + 4 ≤ l.length := by omega
      have HU : Hid (units4 true l (k + 1) = units4 true l k ++ [(Go.Proofs.YtdkodepeglpimaaDoor.u32 true (bt l i) (bt l (i + 1)) (bt l (i + 2)) (bt l (i + 3)) : Int)]) := by
        show units4 true l (k + 1) = _
        rw [units4_succ, HI.out]
      clear hcl hcw h
      generalize bt l i = x0 at q0 l0 HU
      generalize bt l (i + 1) = x1 at q1 l1 HU
      generalize bt l (i + 2) = x2 at q2 l2 HU
      generalize bt l (i + 3) = x3 at q3 l3 HU
      have r0 : bits .or .i64 (((x0 : Int)) * 256) (x1 : Int) = ((x0 : Int)) * 256 + x1 := by
        have := or_i64 (x0) x1 256 8 (by decide) (by decide) l1 (by omega)
        simpa using this
      have r1 : bits .or .i64 ((((x0) * 256 + x1 : Int)) * 256) (x2 : Int) = (((x0) * 256 + x1 : Int)) * 256 + x2 := by
        have := or_i64 ((x0) * 256 + x1) x2 256 8 (by decide) (by decide) l2 (by omega)
        simpa using this
      have r2 : bits .or .i64 (((((x0) * 256 + x1) * 256 + x2 : Int)) * 256) (x3 : Int) = ((((x0) * 256 + x1) * 256 + x2 : Int)) * 256 + x3 := by
        have := or_i64 (((x0) * 256 + x1) * 256 + x2) x3 256 8 (by decide) (by decide) l3 (by omega)
        simpa using this
      have rz := or_zero x0 l0
      have HV : Hid ((((((x0) * 256 + x1) * 256 + x2) * 256 + x3 : Int)) = ((Go.Proofs.YtdkodepeglpimaaDoor.u32 true x0 x1 x2 x3 : Nat) : Int)) := by show ((((x0) * 256 + x1) * 256 + x2) * 256 + x3 : Int) = _; simp [Go.Proofs.YtdkodepeglpimaaDoor.u32]; try omega
      go_wp2
      go_loop [10, 11] (fun c t => (t = .int .i64 0 ∧ c = .int .i64 (0)) ∨ (t = .int .i64 1 ∧ c = .int .i64 (x0)) ∨ (t = .int .i64 2 ∧ c = .int .i64 ((x0) * 256 + x1)) ∨ (t = .int .i64 3 ∧ c = .int .i64 (((x0) * 256 + x1) * 256 + x2)) ∨ (t = .int .i64 4 ∧ c = .int .i64 ((((x0) * 256 + x1) * 256 + x2) * 256 + x3))) (fun _ t => 4 - (intOf t).toNat)
      case atStart => exact .inl ⟨rfl, rfl⟩
      case round =>
        rcases hrel with ⟨rfl, rfl⟩ | ⟨rfl, rfl⟩ | ⟨rfl, rfl⟩ | ⟨rfl, rfl⟩ | ⟨rfl, rfl⟩
        · go_wp2
          go_round
          case rel => exact .inr (.inl ⟨rfl, by first | rfl | go_num⟩)
          case measure => simp [intOf]
        · go_wp2
          go_round
          case rel => exact .inr (.inr (.inl ⟨rfl, by first | rfl | go_num⟩))
          case measure => simp [intOf]
        · go_wp2
          go_round
          case rel => exact .inr (.inr (.inr (.inl ⟨rfl, by first | rfl | go_num⟩)))
          case measure => simp [intOf]
        · go_wp2
          go_round
          case rel => exact .inr (.inr (.inr (.inr (⟨rfl, by first | rfl | go_num⟩))))
          case measure => simp [intOf]
        · go_wp2_with (at_builtin; refine wpList_append_own _ rfl _ _ 24 rfl w.heap.size 3 i0 (.int .i64 0) 1 8 Tryd.underlying24 hi hz0 hz1 hz2 rfl (by decide) _ _ _ rfl (hrow.alloc _) ⟨wr.heap.size, 0, none⟩ 1 1 [.int .i64 ((((x0) * 256 + x1) * 256 + x2) * 256 + x3)] rfl rfl (cell_one_new _ _ _) (by simp [Value.oneCell']) (by unfold maxLen; omega) (by omega) (by simp; omega) ?_; intro v' w1 hown' hgrow _)
          go_roundw
          case rel => exact ⟨k + 1, i + 4, by omega, by omega, by go_num, (by have := HI.out; show i + 4 = 4 * (k + 1); omega), (by rw [HU.out, ← HV.out]; simpa using hown'), ((hB.alloc hBs _).grown hgrow (by simp; omega) (fun j e => (hrow.lt j e).1))⟩
          case measure => simp [intOf]; omega
    · have hk : k = l.length / 4 := by have := HI.out; omega
      have hlt' : (l.length : Int) < (i : Int) + 4 := by omega
      have hrow' : wr.ownsRow w.heap.size 3 1 u8 (l.length / 4) ((units4 true l (l.length / 4)).map (.int .i64)) := hk ▸ hrow
      clear h hk hrow
      go_wp2
      go_quiet (fail)
      go_wp2
      go_ret2
      exact ⟨_, ret_vb (by rw [← HD.out, Bool.eq_iff_iff]; simp; omega), hrow', below_drewN hB _⟩

set_option maxRecDepth 100000 in
set_option maxHeartbeats 2000000 in
theorem units4_false (p : Option Addr) (l : List UInt8) (cap : Nat) (w : World) (hl : (l.length : Int) ≤ 1048576) (h : Bs w p l) (hpa : ∀ a, p = some a → 0 < l.length → a.block < w.heap.size) :
    Calls Tryd.prog 19 #[.slice p l.length cap, .int .i64 4, .bool false] w fun e w' => ∃ v, e = .returned (.tuple #[v, .bool (decide (l.length % 4 = 0))]) ∧ w'.ownsRow w.heap.size 3 1 v (l.length / 4) ((units4 false l (l.length / 4)).map (.int .i64)) ∧ Below w.heap.size w w' := by
  obtain ⟨i0, hi, hz0, hz1, hz2⟩ := info_parts Tryd.info3
  obtain ⟨d, hd⟩ : ∃ d, decide (l.length % 4 = 0) = d := ⟨_, rfl⟩
  rw [hd]
  have HD : Hid (decide (l.length % 4 = 0) = d) := hd
  clear hd
  go_enter Tryd.func19, Tryd.ntmps19
  go_wp2
  go_loopw [8, 9] (fun v t wr => ∃ (k i : Nat), i ≤ l.length ∧ k ≤ i ∧ t = .int .i64 i ∧ Hid (i = 4 * k) ∧ wr.ownsRow w.heap.size 3 1 v k ((units4 false l k).map (.int .i64)) ∧ Below w.heap.size w wr) (fun _ t _ => l.length - (intOf t).toNat)
  case atStart => exact ⟨0, 0, Nat.zero_le _, Nat.le_refl _, rfl, rfl, World.ownsRow_nil _ _ _ _, Below.refl _ _⟩
  case round =>
    obtain ⟨k, i, hil, hki, rfl, HI, hrow, hB⟩ := hrel
    have hBs := hB.size
    by_cases hlt : i + 4 ≤ l.length
    · obtain ⟨b, o, rfl, hcl⟩ := h.at (by omega)
      have hcw : ∀ j, j < l.length → wr.cell? ⟨b, o + j, none⟩ = some (.int .u8 (bt l j)) := fun j hj => (hB.cell (p := ⟨b, o + j, none⟩) (hpa ⟨b, o, none⟩ rfl (by omega))).trans (hcl j hj)
      have q0 := hcw i (by omega)
      have l0 := bt_lt l i
      have q1 := hcw (i + 1) (by omega)
      have l1 := bt_lt l (i + 1)
      have q2 := hcw (i + 2) (by omega)
      have l2 := bt_lt l (i + 2)
      have q3 := hcw (i + 3) (by omega)
      have l3 := bt_lt l (i + 3)
      have hlt' : (i : Int) + 4 ≤ l.length := by omega
      have HU : Hid (units4 false l (k + 1) = units4 false l k ++ [(Go.Proofs.YtdkodepeglpimaaDoor.u32 false (bt l i) (bt l (i + 1)) (bt l (i + 2)) (bt l (i + 3)) : Int)]) := by
        show units4 false l (k + 1) = _
        rw [units4_succ, HI.out]
      clear hcl hcw h
      generalize bt l i = x0 at q0 l0 HU
      generalize bt l (i + 1) = x1 at q1 l1 HU
      generalize bt l (i + 2) = x2 at q2 l2 HU
      generalize bt l (i + 3) = x3 at q3 l3 HU
      have r0 : bits .or .i64 ((x0 : Int)) ((x1 : Int) * 256) = (x0 : Int) + (x1 : Int) * 256 := by
        have := or_rev (x0) x1 256 8 (by decide) (by decide) (by omega) (by omega)
        simpa using this
      have r1 : bits .or .i64 ((x0 + x1 * 256 : Int)) ((x2 : Int) * 65536) = (x0 + x1 * 256 : Int) + (x2 : Int) * 65536 := by
        have := or_rev (x0 + x1 * 256) x2 65536 16 (by decide) (by decide) (by omega) (by omega)
        simpa using this
      have r2 : bits .or .i64 ((x0 + x1 * 256 + x2 * 65536 : Int)) ((x3 : Int) * 16777216) = (x0 + x1 * 256 + x2 * 65536 : Int) + (x3 : Int) * 16777216 := by
        have := or_rev (x0 + x1 * 256 + x2 * 65536) x3 16777216 24 (by decide) (by decide) (by omega) (by omega)
        simpa using this
      have rz := or_zero x0 l0
      have HV : Hid (((x0 + x1 * 256 + x2 * 65536 + x3 * 16777216 : Int)) = ((Go.Proofs.YtdkodepeglpimaaDoor.u32 false x0 x1 x2 x3 : Nat) : Int)) := by show (x0 + x1 * 256 + x2 * 65536 + x3 * 16777216 : Int) = _; simp [Go.Proofs.YtdkodepeglpimaaDoor.u32]; try omega
      go_wp2
      go_loop [10, 11] (fun c t => (t = .int .i64 0 ∧ c = .int .i64 (0)) ∨ (t = .int .i64 1 ∧ c = .int .i64 (x0)) ∨ (t = .int .i64 2 ∧ c = .int .i64 (x0 + x1 * 256)) ∨ (t = .int .i64 3 ∧ c = .int .i64 (x0 + x1 * 256 + x2 * 65536)) ∨ (t = .int .i64 4 ∧ c = .int .i64 (x0 + x1 * 256 + x2 * 65536 + x3 * 16777216))) (fun _ t => 4 - (intOf t).toNat)
      case atStart => exact .inl ⟨rfl, rfl⟩
      case round =>
        rcases hrel with ⟨rfl, rfl⟩ | ⟨rfl, rfl⟩ | ⟨rfl, rfl⟩ | ⟨rfl, rfl⟩ | ⟨rfl, rfl⟩
        · go_wp2
          go_round
          case rel => exact .inr (.inl ⟨rfl, by first | rfl | go_num⟩)
          case measure => simp [intOf]
        · go_wp2
          go_round
          case rel => exact .inr (.inr (.inl ⟨rfl, by first | rfl | go_num⟩))
          case measure => simp [intOf]
        · go_wp2
          go_round
          case rel => exact .inr (.inr (.inr (.inl ⟨rfl, by first | rfl | go_num⟩)))
          case measure => simp [intOf]
        · go_wp2
          go_round
          case rel => exact .inr (.inr (.inr (.inr (⟨rfl, by first | rfl | go_num⟩))))
          case measure => simp [intOf]
        · go_wp2_with (at_builtin; refine wpList_append_own _ rfl _ _ 24 rfl w.heap.size 3 i0 (.int .i64 0) 1 8 Tryd.underlying24 hi hz0 hz1 hz2 rfl (by decide) _ _ _ rfl (hrow.alloc _) ⟨wr.heap.size, 0, none⟩ 1 1 [.int .i64 (x0 + x1 * 256 + x2 * 65536 + x3 * 16777216)] rfl rfl (cell_one_new _ _ _) (by simp [Value.oneCell']) (by unfold maxLen; omega) (by omega) (by simp; omega) ?_; intro v' w1 hown' hgrow _)
          go_roundw
          case rel => exact ⟨k + 1, i + 4, by omega, by omega, by go_num, (by have := HI.out; show i + 4 = 4 * (k + 1); omega), (by rw [HU.out, ← HV.out]; simpa using hown'), ((hB.alloc hBs _).grown hgrow (by simp; omega) (fun j e => (hrow.lt j e).1))⟩
          case measure => simp [intOf]; omega
    · have hk : k = l.length / 4 := by have := HI.out; omega
      have hlt' : (l.length : Int) < (i : Int) + 4 := by omega
      have hrow' : wr.ownsRow w.heap.size 3 1 u8 (l.length / 4) ((units4 false l (l.length / 4)).map (.int .i64)) := hk ▸ hrow
      clear h hk hrow
      go_wp2
      go_quiet (fail)
      go_wp2
      go_ret2
      exact ⟨_, ret_vb (by rw [← HD.out, Bool.eq_iff_iff]; simp; omega), hrow', below_drewN hB _⟩

end Go.Proofs.YtdkodepeglpimaaDoor
