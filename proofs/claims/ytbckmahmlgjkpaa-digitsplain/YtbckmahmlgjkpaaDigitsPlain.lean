/- For every text and every number as its base: DigitsPlain answers true: digits.Plain tells the number, or that there is none, as the document's own PlainDigits does. No condition. -/
import Derived.Test.YtbckmahmlgjkpaaNum
set_option linter.unusedVariables false
set_option linter.unusedSimpArgs false
namespace Go.Proofs.Ytbckmahmlgjkpaa.digitsPlain
open Go.ChangeShapes Go.WideShapes Go.ChangeAt Go.RowKit Go.Shelf

set_option maxRecDepth 100000 in
set_option maxHeartbeats 2000000 in
theorem far (s : ByteArray) (base : Int) (w : World) (h : (300 < (s.size : Int) ∧ (s.size : Int) < 4990) ∨ 5010 < (s.size : Int)) :
    Calls Try.prog 3 #[.string s, .int .i64 base] w fun e w' => e = .returned (.bool true) ∧ Below w.heap.size w w' := by
  rcases h with ⟨h1, h2⟩ | h
  · go_enter Try.func3, Try.ntmps3
    go_wp2_with (first | (go_at_call 8; refine (alive_any _).mono ?_; rintro e W ⟨rfl, hB⟩))
    go_ret
    exact ⟨rfl, hB⟩
  · have h1 : 300 < (s.size : Int) := by omega
    have h2 : ¬ (s.size : Int) < 4990 := by omega
    go_enter Try.func3, Try.ntmps3
    go_wp2_with (first | (go_at_call 8; refine (alive_any _).mono ?_; rintro e W ⟨rfl, hB⟩))
    go_ret
    exact ⟨rfl, hB⟩

set_option maxRecDepth 100000 in
set_option maxHeartbeats 2000000 in
theorem near (s r : ByteArray) (ok : Bool) (base : Int) (w : World) (h : ¬ 300 < (s.size : Int) ∨ (300 < (s.size : Int) ∧ ¬ (s.size : Int) < 4990))
    (h3 : ¬ 5010 < (s.size : Int))
    (A : ∀ w, Calls Try.prog 9 #[.string s, .int .i64 base] w fun e w' => e = .returned (.tuple #[.string r, .bool ok]) ∧ Below w.heap.size w w')
    (B : ∀ w, Calls Try.prog 10 #[.string s, .int .i64 base] w fun e w' => e = .returned (.tuple #[.string r, .bool ok]) ∧ Below w.heap.size w w') :
    Calls Try.prog 3 #[.string s, .int .i64 base] w fun e w' => e = .returned (.bool true) ∧ Below w.heap.size w w' := by
  rcases h with h1 | ⟨h1, h2⟩
  all_goals
    go_enter Try.func3, Try.ntmps3
    go_wp2_with (first | (go_at_call 8; refine (alive_any _).mono ?_; rintro e W ⟨rfl, hB⟩) | (go_at_call 9; refine (A _).mono ?_; rintro e W1 ⟨rfl, hB1⟩) | (go_at_call 10; refine (B _).mono ?_; rintro e W2 ⟨rfl, hB2⟩))
    go_ret
    exact ⟨ret_bool (by simp), (hB.trans (hB1.mono hB.size)).trans (hB2.mono (Nat.le_trans hB.size hB1.size))⟩

theorem walk (s : ByteArray) (base : Int) (w1 : (Lit.int .i64 base).wf = true) (w : World) :
    Calls Try.prog 3 #[.string s, .int .i64 base] w fun e w' => e = .returned (.bool true) ∧ Below w.heap.size w w' := by
  by_cases h : (300 < (s.size : Int) ∧ (s.size : Int) < 4990) ∨ 5010 < (s.size : Int)
  · exact far s base w h
  · cases hok : okS s base
    · exact near s _ _ base w (by omega) (by omega) (fun w => Plain_no s base w hok) (fun w => PlainDigits_no s base w hok)
    · have hb := baseP_iff.1 (okS_iff.1 hok).1
      obtain ⟨b, rfl⟩ := Int.eq_ofNat_of_zero_le (show 0 ≤ base by omega)
      exact near s _ _ b w (by omega) (by omega) (fun w => Plain_yes s b w hok) (fun w => PlainDigits_yes s b w hok)

set_option maxRecDepth 100000 in
theorem lifted (os : Os) (started : os.Started) (H : Type) (enc : TypeId × Value → H) :
    ReturnsInHanded {} Try.checked os 3 .any (Rows.digitsPlainSpec.pre6 enc Try.prog Try.f3 Rows.digitsPlainRow.domain false) (Rows.digitsPlainSpec.post enc Try.prog Try.f3 false true false false) := by
  refine returnsInHanded_of_change (C := Try.checked) own started (by kernel_rfl) Try.func3
    (ChangeSpec.witness6 (enc := enc) (C := Try.checked) false ⟨#[], #[.string ⟨#[]⟩, .int .i64 0], []⟩ 8 (by kernel_rfl) (by kernel_rfl) (by kernel_rfl) (by kernel_rfl)) ?_
  intro W base args ds gs before hval0 hW hcnd _
  have hval : ∀ (j : Nat) t v, Try.f3.params[j]? = some t → args[j]? = some v → Value.okWide Try.prog W .any base t v := hval0
  have hW' := hW
  obtain ⟨p, q, hA0, hV, rfl, hfz, hnd⟩ := hW
  have hA : DataW.TrodAll enc Try.prog W 0 (fun _ => true) true Try.f3.params.toList args.toList ds p := hA0
  rw [Try.params3] at hA hval
  obtain ⟨v0, vs0, d0, ds0, p0, q0, hargs0, rfl, rfl, h0, r0⟩ := trodAll_cons hA
  obtain ⟨v1, vs1, d1, ds1, p1, q1, hargs1, rfl, rfl, h1, r1⟩ := trodAll_cons r0
  obtain ⟨rfl, rfl, rfl⟩ := trodAll_nil r1
  obtain rfl : args = #[v0, v1] := by cases args; simp_all
  obtain ⟨rfl, rfl⟩ := trodVars_none hV
  obtain ⟨a0, rfl⟩ := okWide_string Try.underlying9 (hval 0 9 v0 rfl rfl)
  have k0 := h0
  have lt0 : ∀ x ∈ p0, x.block < W.heap.size := by obtain ⟨m, hm⟩ := k0; exact DataW.trod_lt m _ _ _ hm
  obtain ⟨a1, rfl, rfl, rfl, w1⟩ := open_int Try.underlying3 (hval 1 3 v1 rfl rfl) h1
  clear hA0 hval0
  refine (walk a0 a1 w1 W).mono fun e W' ⟨he, bel⟩ => ?_
  subst he
  exact ⟨_, rfl, _, _, _, [], _, [], hW', trodAll_mk1 (shut_bool Try.underlying4 _), (trodAll_cons_mk (Below.trod laidOut (by kernel_rfl) (of_decide_eq_true (by kernel_rfl)) k0 bel lt0) (trodAll_cons_mk (shut_int Try.underlying3 w1) trodAll_mk0)), rfl, bel.frame _, fun h => by cases h⟩

theorem over : Rows.digitsPlainRow.holds Try.pinned (OpenSpec.ofChange Rows.digitsPlainSpec) :=
  OpenClaim.holds_of_wide 3 Try.f3 rfl rfl rfl rfl rfl rfl rfl ⟨rfl, rfl, rfl, rfl, rfl⟩ rfl rfl rfl rfl rfl (by kernel_rfl) Try.func3 (by kernel_rfl)
    (of_decide_eq_true (by kernel_rfl)) (by unfold Func.isWrapper; first | (rw [if_pos (by decide +kernel)]; kernel_rfl) | (rw [if_neg (by decide +kernel)]; exact ⟨rfl, rfl⟩))
    (fun os started H enc _ => lifted os started H enc)
end Go.Proofs.Ytbckmahmlgjkpaa.digitsPlain
namespace Go.Proofs.Ytbckmahmlgjkpaa
theorem digitsPlain_holds : Rows.DigitsPlainSaid := digitsPlain.over
end Go.Proofs.Ytbckmahmlgjkpaa
