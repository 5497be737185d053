/- One digit more of an exponent. -/
import Derived.Test.YtpffegkckejpiaaWhl
set_option linter.unusedVariables false
set_option linter.unusedSimpArgs false
set_option maxRecDepth 100000
namespace Go.Proofs.Ytpffegkckejpiaa
open Go.RowKit

theorem exp_bound {u : ByteArray} (hd : u.data.toList.all isD = true) (hs : u.size ≤ 9) : (valD u.data.toList : Int) ≤ 999999999 ∧ 0 ≤ (valD u.data.toList : Int) := by
  have := val_le9 (l := (msd u.data.toList).reverse) (fun d h => msd_dg hd d (List.mem_reverse.1 h)) (by simp [msd]; omega)
  unfold valD
  omega
theorem wrap_in (x : Int) (h0 : -9223372036854775808 ≤ x) (h1 : x ≤ 9223372036854775807) : wrap64 x = x := by unfold wrap64; omega
theorem wrap3 (n x : Int) (h0 : 0 ≤ n) (h1 : n ≤ 999999999) (g0 : 48 ≤ x) (g1 : x ≤ 57) : wrap64 (wrap64 (n * 10 + wrap64 x) - 48) = n * 10 + x - 48 := by
  rw [wrap_in x (by omega) (by omega), wrap_in (n * 10 + x) (by omega) (by omega), wrap_in (n * 10 + x - 48) (by omega) (by omega)]
theorem exp_step {u ev : ByteArray} {jj : Nat} {n : Int} (hev : ev.data.toList = u.data.toList) (hd : u.data.toList.all isD = true) (hs : u.size ≤ 9) (h : jj < ev.size) (hn : n = (valD (u.data.toList.take jj) : Int)) :
    48 ≤ (ev[jj].toNat : Int) ∧ (ev[jj].toNat : Int) ≤ 57 ∧ (0 ≤ n * 10 + (ev[jj].toNat : Int) - 48 ∧ n * 10 + (ev[jj].toNat : Int) - 48 ≤ 999999999) ∧ n * 10 + (ev[jj].toNat : Int) - 48 = (valD (u.data.toList.take (jj + 1)) : Int) := by
  have hes : ev.size = u.size := by rw [Lib.size_eq, hev, ← Lib.size_eq]
  have hju : jj < u.size := by omega
  have e : ev[jj] = u[jj] := by
    have h1 := byte_get ev jj h
    rw [hev, byte_get u jj hju] at h1
    exact (Option.some.inj h1).symm
  have hD := List.all_eq_true.1 hd _ (byte_mem u jj hju)
  have hD' := isD_iff.1 hD
  have hx := isD_hex hD
  rw [e]
  have h4 : n * 10 + (u[jj].toNat : Int) - 48 = (valD (u.data.toList.take (jj + 1)) : Int) := by
    rw [byte_take u jj hju, valD_snoc, hx, hn]
    omega
  refine ⟨hD'.1, hD'.2, ?_, h4⟩
  rw [h4]
  have hall : (u.data.toList.take (jj + 1)).all isD = true := by rw [List.all_eq_true] at *; exact fun c hc => hd c (List.mem_of_mem_take hc)
  have := val_le9 (l := (msd (u.data.toList.take (jj + 1))).reverse) (fun d h => msd_dg hall d (List.mem_reverse.1 h)) (by simp [msd]; omega)
  unfold valD
  omega
end Go.Proofs.Ytpffegkckejpiaa
