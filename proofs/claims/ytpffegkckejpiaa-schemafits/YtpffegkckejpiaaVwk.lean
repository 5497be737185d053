/- The walk of SchemaValues. -/
import Derived.Test.YtpffegkckejpiaaRva
set_option linter.unusedVariables false
set_option linter.unusedSimpArgs false
set_option maxRecDepth 100000
namespace Go.Proofs.Ytpffegkckejpiaa
open Go.RowKit

/-- A value's shape. -/
def ValF (v : Value) : Prop := ∃ (K : Int) (t b : Bool) (d : ByteArray) (x k : Int) (z : ByteArray) (e : Int), v = .tuple #[.agg #[.int .i64 K, .bool t, .bool b, .string d, .int .i64 x, .int .i64 k, .string z], .int .i64 e]
theorem v7_F {n : Value} (h : NumF n) (K : Int) (t : Bool) (z : ByteArray) (e : Int) : ValF (.tuple #[v7 K t n z, .int .i64 e]) := by
  obtain ⟨b, d, x, k, rfl⟩ := h
  exact ⟨_, _, _, _, _, _, _, _, rfl⟩
theorem valV_F (tag s : ByteArray) : ValF (valV tag s) := by
  have hno : ValF noV := v7_F zV_F _ _ _ _
  unfold valV
  split
  · split
    · exact v7_F zV_F _ _ _ _
    · exact hno
  · split
    · split
      · exact v7_F zV_F _ _ _ _
      · exact hno
    · split
      · split
        · exact v7_F (intN_F s) _ _ _ _
        · exact hno
      · split
        · split
          · exact v7_F (numC_F s) _ _ _ _
          · exact hno
        · exact v7_F zV_F _ _ _ _
set_option maxHeartbeats 8000000 in
theorem values_walk (a0 a1 : ByteArray) (W : World) (h0 : ¬ (300 : Int) < a0.size) (h1 : ¬ (300 : Int) < a1.size) : Calls Try.prog 4 #[.string a0, .string a1] W fun e W' => e = .returned (.bool true) ∧ Below W.heap.size W W' := by
  have P := fun w => Value_any a0 a1 w (by omega)
  have R := fun w => rValue_any a0 a1 w (by omega)
  obtain ⟨K, t, b, d, x, k, z, e, hv⟩ := valV_F a0 a1
  rw [hv] at P R
  clear hv
  go_enter Try.func4, Try.ntmps4
  go_wp2_with fail
  refine (alive_any _).mono ?_
  rintro e w1 ⟨rfl, c1⟩
  go_wp2_with fail
  refine (P _).mono ?_
  rintro e w2 ⟨rfl, hB2⟩
  have c2 := below_step c1 c1.size hB2
  go_wp2_with fail
  refine (R _).mono ?_
  rintro e w3 ⟨rfl, hB3⟩
  have c3 := below_step (below_alloc c2 c2.size _) (below_alloc c2 c2.size _).size hB3
  rw [size1] at hB3
  have hlt : w2.heap.size < w3.heap.size := by have := hB3.size; rw [size1] at this; exact this
  have hne : ¬ w2.heap.size = w3.heap.size := Nat.ne_of_lt hlt
  obtain ⟨⟨r0, r1, r2, r3, r4, r5, r6⟩, f0, f1, f2, f3, f4, f5, f6⟩ := res7 hB3
  have c4 := below_alloc c3 c3.size (.cells #[.int .i64 K, .bool t, .bool b, .string d, .int .i64 x, .int .i64 k, .string z] 29)
  go_wp2_with fail
  refine (num_any _ _).mono ?_
  rintro e w4 ⟨rfl, rfl⟩
  go_wp2
  go_ret
  exact ⟨rfl, c4⟩
end Go.Proofs.Ytpffegkckejpiaa
