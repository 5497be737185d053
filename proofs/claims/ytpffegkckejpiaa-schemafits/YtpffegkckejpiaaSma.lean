/- The small functions of schema: within, isNull, boolean, judged. -/
import Derived.Test.YtpffegkckejpiaaTidy
import Derived.Laws.ResultCell
set_option linter.unusedVariables false
set_option linter.unusedSimpArgs false
set_option maxRecDepth 100000
namespace Go.Proofs.Ytpffegkckejpiaa
open Go.RowKit

theorem within_s (a b c : Int) (w : World) : Calls Try.prog 64 #[.int .i64 a, .int .i64 b, .int .i64 c] w fun e w' => e = .returned (.bool (decide (b ≤ a) && decide (a ≤ c))) ∧ w' = w := by
  by_cases h1 : b ≤ a
  · by_cases h2 : a ≤ c
    all_goals
      go_enter Try.func64, Try.ntmps64
      go_wp2
      go_ret
      refine ⟨?_, rfl⟩
      simp [h1, h2]
  · go_enter Try.func64, Try.ntmps64
    go_wp2
    go_ret
    refine ⟨?_, rfl⟩
    rw [show decide (b ≤ a) = false from decide_eq_false (by omega)]
    rfl
theorem within_b (a b c : Int) (w : World) : Calls Try.prog 76 #[.int .u8 a, .int .u8 b, .int .u8 c] w fun e w' => e = .returned (.bool (decide (b ≤ a) && decide (a ≤ c))) ∧ w' = w := by
  by_cases h1 : b ≤ a
  · by_cases h2 : a ≤ c
    all_goals
      go_enter Try.func76, Try.ntmps76
      go_wp2
      go_ret
      refine ⟨?_, rfl⟩
      simp [h1, h2]
  · go_enter Try.func76, Try.ntmps76
    go_wp2
    go_ret
    refine ⟨?_, rfl⟩
    rw [show decide (b ≤ a) = false from decide_eq_false (by omega)]
    rfl

theorem isNull_any (s : ByteArray) (w : World) : Calls Try.prog 22 #[.string s] w fun e w' => e = .returned (.bool (s.toList == [110, 117, 108, 108] || s.toList == [78, 117, 108, 108] || s.toList == [78, 85, 76, 76] || s.toList == [126] || s.toList == [])) ∧ w' = w := by
  cases h0 : s.toList == [110, 117, 108, 108]
  · cases h1 : s.toList == [78, 117, 108, 108]
    · cases h2 : s.toList == [78, 85, 76, 76]
      · cases h3 : s.toList == [126]
        · cases h4 : s.toList == []
          · go_enter Try.func22, Try.ntmps22
            go_wp2
            go_ret
            exact ⟨rfl, rfl⟩
          · go_enter Try.func22, Try.ntmps22
            go_wp2
            go_ret
            exact ⟨rfl, rfl⟩
        · go_enter Try.func22, Try.ntmps22
          go_wp2
          go_ret
          exact ⟨rfl, rfl⟩
      · go_enter Try.func22, Try.ntmps22
        go_wp2
        go_ret
        exact ⟨rfl, rfl⟩
    · go_enter Try.func22, Try.ntmps22
      go_wp2
      go_ret
      exact ⟨rfl, rfl⟩
  · go_enter Try.func22, Try.ntmps22
    go_wp2
    go_ret
    exact ⟨rfl, rfl⟩
theorem boolean_any (s : ByteArray) (w : World) : Calls Try.prog 23 #[.string s] w fun e w' => e = .returned (.tuple #[.bool (s.toList == [116, 114, 117, 101] || s.toList == [84, 114, 117, 101] || s.toList == [84, 82, 85, 69]), .bool ((s.toList == [116, 114, 117, 101] || s.toList == [84, 114, 117, 101] || s.toList == [84, 82, 85, 69]) || (s.toList == [102, 97, 108, 115, 101] || s.toList == [70, 97, 108, 115, 101] || s.toList == [70, 65, 76, 83, 69]))]) ∧ w' = w := by
  cases h0 : s.toList == [116, 114, 117, 101]
  · cases h1 : s.toList == [84, 114, 117, 101]
    · cases h2 : s.toList == [84, 82, 85, 69]
      · cases h3 : s.toList == [102, 97, 108, 115, 101]
        · cases h4 : s.toList == [70, 97, 108, 115, 101]
          · cases h5 : s.toList == [70, 65, 76, 83, 69]
            · go_enter Try.func23, Try.ntmps23
              go_wp2
              go_ret2
              exact ⟨rfl, rfl⟩
            · go_enter Try.func23, Try.ntmps23
              go_wp2
              go_ret2
              exact ⟨rfl, rfl⟩
          · go_enter Try.func23, Try.ntmps23
            go_wp2
            go_ret2
            exact ⟨rfl, rfl⟩
        · go_enter Try.func23, Try.ntmps23
          go_wp2
          go_ret2
          exact ⟨rfl, rfl⟩
      · go_enter Try.func23, Try.ntmps23
        go_wp2
        go_ret2
        exact ⟨rfl, rfl⟩
    · go_enter Try.func23, Try.ntmps23
      go_wp2
      go_ret2
      exact ⟨rfl, rfl⟩
  · go_enter Try.func23, Try.ntmps23
    go_wp2
    go_ret2
    exact ⟨rfl, rfl⟩

/-- A variable of seven cells that the call has made lies as it lay. -/
theorem res7 {w W : World} {c0 c1 c2 c3 c4 c5 c6 : Value} (hB : Below (w.heap.size + 1) (w.alloc (.cells #[c0, c1, c2, c3, c4, c5, c6] 29)) W) :
    (W.cell? ⟨w.heap.size, 0, none⟩ = some c0 ∧ W.cell? ⟨w.heap.size, 1, none⟩ = some c1 ∧ W.cell? ⟨w.heap.size, 2, none⟩ = some c2 ∧ W.cell? ⟨w.heap.size, 3, none⟩ = some c3 ∧ W.cell? ⟨w.heap.size, 4, none⟩ = some c4 ∧ W.cell? ⟨w.heap.size, 5, none⟩ = some c5 ∧ W.cell? ⟨w.heap.size, 6, none⟩ = some c6) ∧
    (W.frozen? ⟨w.heap.size, 0, none⟩ = false ∧ W.frozen? ⟨w.heap.size, 1, none⟩ = false ∧ W.frozen? ⟨w.heap.size, 2, none⟩ = false ∧ W.frozen? ⟨w.heap.size, 3, none⟩ = false ∧ W.frozen? ⟨w.heap.size, 4, none⟩ = false ∧ W.frozen? ⟨w.heap.size, 5, none⟩ = false ∧ W.frozen? ⟨w.heap.size, 6, none⟩ = false) := by
  have hb : ∀ i, (⟨w.heap.size, i, none⟩ : Addr).block < w.heap.size + 1 := fun i => Nat.lt_succ_self _
  refine ⟨⟨?_, ?_, ?_, ?_, ?_, ?_, ?_⟩, ?_, ?_, ?_, ?_, ?_, ?_, ?_⟩
  all_goals first | rw [hB.cell (hb _)] | rw [hB.frozen (hb _)]
  all_goals simp
/-- Seven stores into it. -/
def put7 (W : World) (g : Nat) (b0 b1 b2 b3 b4 b5 b6 : Value) : World := ((((((W.setCell ⟨g, 0, none⟩ b0).setCell ⟨g, 1, none⟩ b1).setCell ⟨g, 2, none⟩ b2).setCell ⟨g, 3, none⟩ b3).setCell ⟨g, 4, none⟩ b4).setCell ⟨g, 5, none⟩ b5).setCell ⟨g, 6, none⟩ b6
theorem put7_below {B g : Nat} {w W : World} (h : Below B w W) (hg : B ≤ g) (b0 b1 b2 b3 b4 b5 b6 : Value) : Below B w (put7 W g b0 b1 b2 b3 b4 b5 b6) :=
  ((((((h.setCell (p := ⟨g, 0, none⟩) hg b0).setCell (p := ⟨g, 1, none⟩) hg b1).setCell (p := ⟨g, 2, none⟩) hg b2).setCell (p := ⟨g, 3, none⟩) hg b3).setCell (p := ⟨g, 4, none⟩) hg b4).setCell (p := ⟨g, 5, none⟩) hg b5).setCell (p := ⟨g, 6, none⟩) hg b6
set_option maxHeartbeats 1000000 in
theorem put7_load {W : World} {g : Nat} {a0 a1 a2 a3 a4 a5 a6 : Value} (r : W.cell? ⟨g, 0, none⟩ = some a0 ∧ W.cell? ⟨g, 1, none⟩ = some a1 ∧ W.cell? ⟨g, 2, none⟩ = some a2 ∧ W.cell? ⟨g, 3, none⟩ = some a3 ∧ W.cell? ⟨g, 4, none⟩ = some a4 ∧ W.cell? ⟨g, 5, none⟩ = some a5 ∧ W.cell? ⟨g, 6, none⟩ = some a6) (b0 b1 b2 b3 b4 b5 b6 : Value) :
    (loadVar 29 ⟨g, 0, none⟩).run Try.prog (put7 W g b0 b1 b2 b3 b4 b5 b6) = .ok (.agg #[b0, b1, b2, b3, b4, b5, b6]) (put7 W g b0 b1 b2 b3 b4 b5 b6) := by
  obtain ⟨r0, r1, r2, r3, r4, r5, r6⟩ := r
  unfold put7
  simp [go_sem, r0, r1, r2, r3, r4, r5, r6]
theorem put7_results2 {fn : Func} {p u : Tmp} (h : fn.results = #[.cell p 29, .tmp u]) {tmps : Array Value} {W : World} {g : Nat} {a0 a1 a2 a3 a4 a5 a6 v : Value} (hp : tmps.getD p undef = .pointer (some ⟨g, 0, none⟩)) (hu : tmps.getD u undef = v)
    (r : W.cell? ⟨g, 0, none⟩ = some a0 ∧ W.cell? ⟨g, 1, none⟩ = some a1 ∧ W.cell? ⟨g, 2, none⟩ = some a2 ∧ W.cell? ⟨g, 3, none⟩ = some a3 ∧ W.cell? ⟨g, 4, none⟩ = some a4 ∧ W.cell? ⟨g, 5, none⟩ = some a5 ∧ W.cell? ⟨g, 6, none⟩ = some a6) (b0 b1 b2 b3 b4 b5 b6 : Value) :
    (results fn tmps).run Try.prog (put7 W g b0 b1 b2 b3 b4 b5 b6) = .ok (.tuple #[.agg #[b0, b1, b2, b3, b4, b5, b6], v]) (put7 W g b0 b1 b2 b3 b4 b5 b6) := by
  rw [results_cell_tmp h, hp, hu]
  simp [asAddr, Result.andThen, put7_load r]

def z7 : Obj := .cells #[.int .i64 0, .bool false, .bool false, .string ⟨#[]⟩, .int .i64 0, .int .i64 0, .string ⟨#[]⟩] 29
set_option maxHeartbeats 1000000 in
theorem judged_any (k x y : Int) (t b ok : Bool) (d z : ByteArray) (w : World) : Calls Try.prog 21 #[.agg #[.int .i64 k, .bool t, .bool b, .string d, .int .i64 x, .int .i64 y, .string z], .bool ok] w fun e w' => e = .returned (if ok then .tuple #[.agg #[.int .i64 k, .bool t, .bool b, .string d, .int .i64 x, .int .i64 y, .string z], .int .i64 0] else .tuple #[.agg #[.int .i64 0, .bool false, .bool false, .string ⟨#[]⟩, .int .i64 0, .int .i64 0, .string ⟨#[]⟩], .int .i64 15]) ∧ Below w.heap.size w w' := by
  cases ok
  · go_enter Try.func21, Try.ntmps21
    go_wp2
    exact bodyPost_ret (v := .tuple #[.agg #[.int .i64 0, .bool false, .bool false, .string ⟨#[]⟩, .int .i64 0, .int .i64 0, .string ⟨#[]⟩], .int .i64 15]) (by simp [results, Try.results21, go_sem]) rfl ⟨rfl, ((Below.refl _ w).alloc (Nat.le_refl _) _).alloc (by simp) _⟩
  · go_enter Try.func21, Try.ntmps21
    go_wp2
    exact bodyPost_ret (v := .tuple #[.agg #[.int .i64 k, .bool t, .bool b, .string d, .int .i64 x, .int .i64 y, .string z], .int .i64 0]) (by simp [results, Try.results21, go_sem]) rfl ⟨rfl, ((Below.refl _ w).alloc (Nat.le_refl _) _).alloc (by simp) _⟩
end Go.Proofs.Ytpffegkckejpiaa
