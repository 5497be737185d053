/- For all numbers a, b and n: DigitsSmall answers true: sums, products and the order of small numbers as texts are those of the language. No condition. -/
import Derived.Test.YtbckmahmlgjkpaaNum
set_option linter.unusedVariables false
set_option linter.unusedSimpArgs false
namespace Go.Proofs.Ytbckmahmlgjkpaa.digitsSmall
open Go.ChangeShapes Go.WideShapes Go.ChangeAt Go.RowKit Go.Shelf

set_option maxRecDepth 100000 in
set_option maxHeartbeats 2000000 in
theorem far (a b n : Int) (w : World) (h : (a < 0) ∨ (¬ a < 0 ∧ 1099511627776 < a) ∨ (¬ a < 0 ∧ ¬ 1099511627776 < a ∧ b < 0) ∨ (¬ a < 0 ∧ ¬ 1099511627776 < a ∧ ¬ b < 0 ∧ 1099511627776 < b) ∨ (¬ a < 0 ∧ ¬ 1099511627776 < a ∧ ¬ b < 0 ∧ ¬ 1099511627776 < b ∧ n < 0) ∨ (¬ a < 0 ∧ ¬ 1099511627776 < a ∧ ¬ b < 0 ∧ ¬ 1099511627776 < b ∧ ¬ n < 0 ∧ 1000000 < n)) :
    Calls Try.prog 5 #[.int .i64 a, .int .i64 b, .int .i64 n] w fun e w' => e = .returned (.bool true) ∧ Below w.heap.size w w' := by
  rcases h with h0 | ⟨h0, h1⟩ | ⟨h0, h1, h2⟩ | ⟨h0, h1, h2, h3⟩ | ⟨h0, h1, h2, h3, h4⟩ | ⟨h0, h1, h2, h3, h4, h5⟩
  all_goals
    go_enter Try.func5, Try.ntmps5
    go_wp2_with (first | (go_at_call 8; refine (alive_any _).mono ?_; rintro e W ⟨rfl, hB⟩))
    go_ret
    exact ⟨rfl, hB⟩

set_option maxRecDepth 100000 in
set_option maxHeartbeats 2000000 in
theorem near (a b n : Nat) (w : World) (ha : a ≤ 1099511627776) (hb : b ≤ 1099511627776) (hn : n ≤ 1000000) :
    Calls Try.prog 5 #[.int .i64 a, .int .i64 b, .int .i64 n] w fun e w' => e = .returned (.bool true) ∧ Below w.heap.size w w' := by
  have DA := fun w => digits_any a w (by omega)
  have DB := fun w => digits_any b w (by omega)
  have DS := fun w => digits_any (a + b) w (by omega)
  have hle : a * n ≤ 1099511627776000000 := Nat.le_trans (Nat.mul_le_mul ha hn) (by decide)
  have DP := fun w => digits_any (a * n) w (by omega)
  have AD := fun w => Add_any (decB a) (decB b) w
  have LE := fun w => Less_any (decB a) (decB b) w
  have TI := fun w => Times_yes (decB a) n w hn
  rw [num_small (by omega), num_small (by omega)] at AD LE
  rw [num_small (by omega), Nat.mul_comm] at TI
  have es : ((a + b : Nat) : Int) = (a : Int) + (b : Int) := by omega
  have ep : (a : Int) * (n : Int) = ((a * n : Nat) : Int) := by simp
  rw [es] at DS
  have el : decide (a < b) = decide ((a : Int) < (b : Int)) := by rw [decide_eq_decide]; omega
  generalize decB a = x at *
  generalize decB b = z at *
  generalize decB (a + b) = y at *
  generalize a * n = pn at *
  generalize decB pn = t at *
  clear es
  go_enter Try.func5, Try.ntmps5
  go_wp2_with (first | (go_at_call 8; refine (alive_any _).mono ?_; rintro e W ⟨rfl, hB⟩))
  refine (DA _).mono ?_
  rintro e W1 ⟨rfl, rfl⟩
  go_wp2_with fail
  refine (DB _).mono ?_
  rintro e W1 ⟨rfl, rfl⟩
  go_wp2_with fail
  refine (AD _).mono ?_
  rintro e W2 ⟨rfl, hB2⟩
  go_wp2_with fail
  refine (DS _).mono ?_
  rintro e W2 ⟨rfl, rfl⟩
  go_wp2_with fail
  refine (LE _).mono ?_
  rintro e W3 ⟨rfl, hB3⟩
  go_wp2_with fail
  refine (TI _).mono ?_
  rintro e W4 ⟨rfl, hB4⟩
  go_wp2_with fail
  refine (DP _).mono ?_
  rintro e W4 ⟨rfl, rfl⟩
  go_wp2
  go_ret
  have c2 := hB.trans (hB2.mono hB.size)
  have c3 := c2.trans (hB3.mono c2.size)
  exact ⟨ret_bool (by simp), c3.trans (hB4.mono c3.size)⟩

theorem walk (a b n : Int) (w0 : (Lit.int .i64 a).wf = true) (w1 : (Lit.int .i64 b).wf = true) (w2 : (Lit.int .i64 n).wf = true) (w : World) :
    Calls Try.prog 5 #[.int .i64 a, .int .i64 b, .int .i64 n] w fun e w' => e = .returned (.bool true) ∧ Below w.heap.size w w' := by
  by_cases h : a < 0 ∨ 1099511627776 < a ∨ b < 0 ∨ 1099511627776 < b ∨ n < 0 ∨ 1000000 < n
  · exact far a b n w (by omega)
  · obtain ⟨a', rfl⟩ := Int.eq_ofNat_of_zero_le (show 0 ≤ a by omega)
    obtain ⟨b', rfl⟩ := Int.eq_ofNat_of_zero_le (show 0 ≤ b by omega)
    obtain ⟨n', rfl⟩ := Int.eq_ofNat_of_zero_le (show 0 ≤ n by omega)
    exact near a' b' n' w (by omega) (by omega) (by omega)

set_option maxRecDepth 100000 in
theorem lifted (os : Os) (started : os.Started) (H : Type) (enc : TypeId × Value → H) :
    ReturnsInHanded {} Try.checked os 5 .any (Rows.digitsSmallSpec.pre6 enc Try.prog Try.f5 Rows.digitsSmallRow.domain false) (Rows.digitsSmallSpec.post enc Try.prog Try.f5 false true false false) := by
  refine returnsInHanded_of_change (C := Try.checked) own started (by kernel_rfl) Try.func5
    (ChangeSpec.witness6 (enc := enc) (C := Try.checked) false ⟨#[], #[.int .i64 0, .int .i64 0, .int .i64 0], []⟩ 8 (by kernel_rfl) (by kernel_rfl) (by kernel_rfl) (by kernel_rfl)) ?_
  intro W base args ds gs before hval0 hW hcnd _
  have hval : ∀ (j : Nat) t v, Try.f5.params[j]? = some t → args[j]? = some v → Value.okWide Try.prog W .any base t v := hval0
  have hW' := hW
  obtain ⟨p, q, hA0, hV, rfl, hfz, hnd⟩ := hW
  have hA : DataW.TrodAll enc Try.prog W 0 (fun _ => true) true Try.f5.params.toList args.toList ds p := hA0
  rw [Try.params5] at hA hval
  obtain ⟨v0, vs0, d0, ds0, p0, q0, hargs0, rfl, rfl, h0, r0⟩ := trodAll_cons hA
  obtain ⟨v1, vs1, d1, ds1, p1, q1, hargs1, rfl, rfl, h1, r1⟩ := trodAll_cons r0
  obtain ⟨v2, vs2, d2, ds2, p2, q2, hargs2, rfl, rfl, h2, r2⟩ := trodAll_cons r1
  obtain ⟨rfl, rfl, rfl⟩ := trodAll_nil r2
  obtain rfl : args = #[v0, v1, v2] := by cases args; simp_all
  obtain ⟨rfl, rfl⟩ := trodVars_none hV
  obtain ⟨a0, rfl, rfl, rfl, w0⟩ := open_int Try.underlying3 (hval 0 3 v0 rfl rfl) h0
  obtain ⟨a1, rfl, rfl, rfl, w1⟩ := open_int Try.underlying3 (hval 1 3 v1 rfl rfl) h1
  obtain ⟨a2, rfl, rfl, rfl, w2⟩ := open_int Try.underlying3 (hval 2 3 v2 rfl rfl) h2
  clear hA0 hval0
  refine (walk a0 a1 a2 w0 w1 w2 W).mono fun e W' ⟨he, bel⟩ => ?_
  subst he
  exact ⟨_, rfl, _, _, _, [], _, [], hW', trodAll_mk1 (shut_bool Try.underlying4 _), (trodAll_cons_mk (shut_int Try.underlying3 w0) (trodAll_cons_mk (shut_int Try.underlying3 w1) (trodAll_cons_mk (shut_int Try.underlying3 w2) trodAll_mk0))), rfl, bel.frame _, fun h => by cases h⟩

theorem over : Rows.digitsSmallRow.holds Try.pinned (OpenSpec.ofChange Rows.digitsSmallSpec) :=
  OpenClaim.holds_of_wide 5 Try.f5 rfl rfl rfl rfl rfl rfl rfl ⟨rfl, rfl, rfl, rfl, rfl⟩ rfl rfl rfl rfl rfl (by kernel_rfl) Try.func5 (by kernel_rfl)
    (of_decide_eq_true (by kernel_rfl)) (by unfold Func.isWrapper; first | (rw [if_pos (by decide +kernel)]; kernel_rfl) | (rw [if_neg (by decide +kernel)]; exact ⟨rfl, rfl⟩))
    (fun os started H enc _ => lifted os started H enc)
end Go.Proofs.Ytbckmahmlgjkpaa.digitsSmall
namespace Go.Proofs.Ytbckmahmlgjkpaa
theorem digitsSmall_holds : Rows.DigitsSmallSaid := digitsSmall.over
end Go.Proofs.Ytbckmahmlgjkpaa
