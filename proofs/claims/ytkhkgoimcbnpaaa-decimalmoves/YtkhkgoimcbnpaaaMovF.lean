/- The texts of DecimalMoves, and what is answered of them. -/
import Derived.Test.YtkhkgoimcbnpaaaMovP
set_option linter.unusedVariables false
set_option linter.unusedSimpArgs false
namespace Go.Proofs.Ytkhkgoimcbnpaaa
open Go.RowKit

theorem plus_size {a b : ByteArray} : (a ++ b).size = a.size + b.size := ByteArray.size_append
theorem moves_num (a p : ByteArray) (x : Int) (ha : a.data.toList.all isD = true) (hp : p.data.toList.all isD = true) (h1 : 1 ≤ a.size) (h2 : a.size ≤ 30) (h3 : p.size ≤ 30) (h4 : -100000 ≤ x) (h5 : x ≤ 100000) :
    ∃ D E, numV false (valD (a.data.toList ++ p.data.toList)) (x - p.data.toList.length) = .agg #[.bool false, .string D, .int .i64 E, .int .i64 0] ∧ ∀ w, Calls Try.prog 14 #[.agg #[.bool false, .string D, .int .i64 E, .int .i64 0]] w fun e w' => e = .returned (.bool true) ∧ Below w.heap.size w w' := by
  have la : a.data.toList.length = a.size := size_list a
  have lp : p.data.toList.length = p.size := size_list p
  have hbd : (decB (valD (a.data.toList ++ p.data.toList))).size ≤ 20000 := by
    have hok : okS (⟨(a.data.toList ++ p.data.toList).toArray⟩ : ByteArray) ((10 : Nat) : Int) = true := by
      show okS _ 10 = true
      rw [okS_okL]
      show okL (a.data.toList ++ p.data.toList) = true
      unfold okL
      rw [List.all_append, ha, hp, List.length_append, decide_eq_true (by omega), decide_eq_true (by omega)]
      rfl
    exact dec_bound hok
  obtain ⟨D, E, hV, hR, hDs⟩ := num_right false (valD (a.data.toList ++ p.data.toList)) (x - (p.data.toList.length : Int)) hbd (by omega) (by omega)
  refine ⟨D, E, hV, fun w => ?_⟩
  have := Right_any false D E 0 w hDs
  rwa [hR] at this

theorem moves_first (a p : ByteArray) (x : Int) (D : ByteArray) (E : Int) (ha : a.data.toList.all isD = true) (hp : p.data.toList.all isD = true) (h1 : 1 ≤ a.size) (h2 : a.size ≤ 30) (h3 : p.size ≤ 30) (h4 : -100000 ≤ x) (h5 : x ≤ 100000)
    (hV : numV false (valD (a.data.toList ++ p.data.toList)) (x - p.data.toList.length) = .agg #[.bool false, .string D, .int .i64 E, .int .i64 0]) :
    ∃ b1 b2 b3 b4 ix, (∀ w, (Op.stringOp .add a ⟨#[46]⟩).run Try.prog w = .ok (.string b1) w) ∧ (∀ w, (Op.stringOp .add b1 p).run Try.prog w = .ok (.string b2) w) ∧ (∀ w, (Op.stringOp .add b2 ⟨#[101]⟩).run Try.prog w = .ok (.string b3) w) ∧
      (∀ w, (Op.stringOp .add b3 ix).run Try.prog w = .ok (.string b4) w) ∧ (∀ w, Calls Try.prog 13 #[.int .i64 x] w fun e w' => e = .returned (.string ix) ∧ w' = w) ∧
      (∀ w, Calls Try.prog 10 #[.string b4] w fun e w' => e = .returned (.tuple #[.agg #[.bool false, .string D, .int .i64 E, .int .i64 0], .bool true]) ∧ Below w.heap.size w w') := by
  have hx := itoa_size (e := x) (by omega) (by omega)
  have z1 : (⟨#[46]⟩ : ByteArray).size = 1 := rfl
  have z2 : (⟨#[101]⟩ : ByteArray).size = 1 := rfl
  have la : a.data.toList.length = a.size := size_list a
  have lp : p.data.toList.length = p.size := size_list p
  have l4 : (a ++ ⟨#[46]⟩ ++ p ++ ⟨#[101]⟩ ++ itoaB x).data.toList = a.data.toList ++ 46 :: (p.data.toList ++ 101 :: (itoaB x).data.toList) := by
    rw [app_list, app_list, app_list, app_list]; simp
  obtain ⟨V1, s1⟩ := float_moves l4 (by decide) ha hp (by omega) (by omega) (by omega) (by omega)
  have s4 : (a ++ ⟨#[46]⟩ ++ p ++ ⟨#[101]⟩ ++ itoaB x).size ≤ 100000 := by
    rw [plus_size, plus_size, plus_size, plus_size, z1, z2]; omega
  refine ⟨a ++ ⟨#[46]⟩, a ++ ⟨#[46]⟩ ++ p, a ++ ⟨#[46]⟩ ++ p ++ ⟨#[101]⟩, a ++ ⟨#[46]⟩ ++ p ++ ⟨#[101]⟩ ++ itoaB x, itoaB x, fun w => ?_, fun w => ?_, fun w => ?_, fun w => ?_, fun w => itoa_any x w (by omega) (by omega), fun w => ?_⟩
  · exact run_string_add_sum (P := Try.prog) w a ⟨#[46]⟩ (by rw [z1]; omega)
  · exact run_string_add_sum (P := Try.prog) w _ _ (by rw [plus_size, z1]; omega)
  · exact run_string_add_sum (P := Try.prog) w _ _ (by rw [plus_size, plus_size, z1, z2]; omega)
  · exact run_string_add_sum (P := Try.prog) w _ _ (by rw [plus_size, plus_size, plus_size, z1, z2]; omega)
  · have F := Float_plain _ w s4 (.inr s1)
    rw [V1, hV] at F
    exact F

theorem moves_second (a p : ByteArray) (x : Int) (k : Nat) (D : ByteArray) (E : Int) (ha : a.data.toList.all isD = true) (hp : p.data.toList.all isD = true) (h1 : 1 ≤ a.size) (h2 : a.size ≤ 30) (h3 : p.size ≤ 30) (h4 : -100000 ≤ x) (h5 : x ≤ 100000) (h6 : k ≤ p.size)
    (hV : numV false (valD (a.data.toList ++ p.data.toList)) (x - p.data.toList.length) = .agg #[.bool false, .string D, .int .i64 E, .int .i64 0]) :
    ∃ c1 c2 c3 c4 c5 iy, (∀ w, (Op.stringOp .add a (p.extract 0 k)).run Try.prog w = .ok (.string c1) w) ∧ (∀ w, (Op.stringOp .add c1 ⟨#[46]⟩).run Try.prog w = .ok (.string c2) w) ∧ (∀ w, (Op.stringOp .add c2 (p.extract k p.size)).run Try.prog w = .ok (.string c3) w) ∧
      (∀ w, (Op.stringOp .add c3 ⟨#[69]⟩).run Try.prog w = .ok (.string c4) w) ∧ (∀ w, (Op.stringOp .add c4 iy).run Try.prog w = .ok (.string c5) w) ∧ (∀ w, Calls Try.prog 13 #[.int .i64 (x - k)] w fun e w' => e = .returned (.string iy) ∧ w' = w) ∧
      (∀ w, Calls Try.prog 10 #[.string c5] w fun e w' => e = .returned (.tuple #[.agg #[.bool false, .string D, .int .i64 E, .int .i64 0], .bool true]) ∧ Below w.heap.size w w') := by
  have hy := itoa_size (e := x - k) (by omega) (by omega)
  have z1 : (⟨#[46]⟩ : ByteArray).size = 1 := rfl
  have z2 : (⟨#[69]⟩ : ByteArray).size = 1 := rfl
  have la : a.data.toList.length = a.size := size_list a
  have lp : p.data.toList.length = p.size := size_list p
  have hp1 : (p.extract 0 k).data.toList = p.data.toList.take k := ext_take p k
  have hp2 : (p.extract k p.size).data.toList = p.data.toList.drop k := by rw [Lib.extract_data, List.take_of_length_le (by simp)]
  have hz1 : (p.extract 0 k).size = k := by rw [Lib.size_eq, hp1, List.length_take, ← Lib.size_eq]; omega
  have hz2 : (p.extract k p.size).size = p.size - k := by rw [Lib.size_eq, hp2, List.length_drop, ← Lib.size_eq]
  have ht1 : (p.data.toList.take k).all isD = true := by rw [List.all_eq_true] at *; exact fun c hc => hp c (List.mem_of_mem_take hc)
  have ht2 : (p.data.toList.drop k).all isD = true := by rw [List.all_eq_true] at *; exact fun c hc => hp c (List.mem_of_mem_drop hc)
  have m5 : (a ++ p.extract 0 k ++ ⟨#[46]⟩ ++ p.extract k p.size ++ ⟨#[69]⟩ ++ itoaB (x - k)).data.toList = (a.data.toList ++ p.data.toList.take k) ++ 46 :: (p.data.toList.drop k ++ 69 :: (itoaB (x - k)).data.toList) := by
    rw [app_list, app_list, app_list, app_list, app_list, hp1, hp2]; simp
  obtain ⟨V2, s2⟩ := float_moves m5 (by decide) (by rw [List.all_append, ha, ht1]; rfl) ht2 (by rw [List.length_append]; omega) (by rw [List.length_append, List.length_take, List.length_drop]; omega) (by omega) (by omega)
  have ev : (a.data.toList ++ p.data.toList.take k) ++ p.data.toList.drop k = a.data.toList ++ p.data.toList := by rw [List.append_assoc, List.take_append_drop]
  have ee : x - k - ((p.data.toList.drop k).length : Int) = x - (p.data.toList.length : Int) := by rw [List.length_drop]; omega
  rw [ev, ee, hV] at V2
  have s5 : (a ++ p.extract 0 k ++ ⟨#[46]⟩ ++ p.extract k p.size ++ ⟨#[69]⟩ ++ itoaB (x - k)).size ≤ 100000 := by
    rw [plus_size, plus_size, plus_size, plus_size, plus_size, z1, z2, hz1, hz2]; omega
  refine ⟨a ++ p.extract 0 k, a ++ p.extract 0 k ++ ⟨#[46]⟩, a ++ p.extract 0 k ++ ⟨#[46]⟩ ++ p.extract k p.size, a ++ p.extract 0 k ++ ⟨#[46]⟩ ++ p.extract k p.size ++ ⟨#[69]⟩, a ++ p.extract 0 k ++ ⟨#[46]⟩ ++ p.extract k p.size ++ ⟨#[69]⟩ ++ itoaB (x - k), itoaB (x - k), fun w => ?_, fun w => ?_, fun w => ?_, fun w => ?_, fun w => ?_, fun w => itoa_any (x - k) w (by omega) (by omega), fun w => ?_⟩
  · exact run_string_add_sum (P := Try.prog) w _ _ (by rw [hz1]; omega)
  · exact run_string_add_sum (P := Try.prog) w _ _ (by rw [plus_size, z1, hz1]; omega)
  · exact run_string_add_sum (P := Try.prog) w _ _ (by rw [plus_size, plus_size, z1, hz1, hz2]; omega)
  · exact run_string_add_sum (P := Try.prog) w _ _ (by rw [plus_size, plus_size, plus_size, z1, z2, hz1, hz2]; omega)
  · exact run_string_add_sum (P := Try.prog) w _ _ (by rw [plus_size, plus_size, plus_size, plus_size, z1, z2, hz1, hz2]; omega)
  · have F := Float_plain _ w s5 (.inr s2)
    rw [V2] at F
    exact F
end Go.Proofs.Ytkhkgoimcbnpaaa
