/- For all texts a and b and every number n: DigitsSums answers true: digits.Add, Less and Times tell what the document's own AddDigits, LessDigits and TimesDigits tell. No condition. -/
import Derived.Test.YtbckmahmlgjkpaaNum
set_option linter.unusedVariables false
set_option linter.unusedSimpArgs false
namespace Go.Proofs.Ytbckmahmlgjkpaa.digitsSums
open Go.ChangeShapes Go.WideShapes Go.ChangeAt Go.RowKit Go.Shelf

set_option maxRecDepth 100000 in
set_option maxHeartbeats 2000000 in
theorem far (a b : ByteArray) (n : Int) (w : World) (h : 200 < (a.size : Int) ∨ (¬ 200 < (a.size : Int) ∧ 200 < (b.size : Int))) :
    Calls Try.prog 4 #[.string a, .string b, .int .i64 n] w fun e w' => e = .returned (.bool true) ∧ Below w.heap.size w w' := by
  rcases h with h1 | ⟨h1, h2⟩
  all_goals
    go_enter Try.func4, Try.ntmps4
    go_wp2_with (first | (go_at_call 8; refine (alive_any _).mono ?_; rintro e W ⟨rfl, hB⟩))
    go_ret
    exact ⟨rfl, hB⟩

set_option maxRecDepth 100000 in
set_option maxHeartbeats 2000000 in
theorem near (a b r : ByteArray) (n : Int) (w : World) (h1 : ¬ 200 < (a.size : Int)) (h2 : ¬ 200 < (b.size : Int))
    (A : ∀ w, Calls Try.prog 15 #[.string a, .int .i64 n] w fun e w' => e = .returned (.string r) ∧ Below w.heap.size w w')
    (B : ∀ w, Calls Try.prog 16 #[.string a, .int .i64 n] w fun e w' => e = .returned (.string r) ∧ Below w.heap.size w w') :
    Calls Try.prog 4 #[.string a, .string b, .int .i64 n] w fun e w' => e = .returned (.bool true) ∧ Below w.heap.size w w' := by
  go_enter Try.func4, Try.ntmps4
  go_wp2_with (first | (go_at_call 8; refine (alive_any _).mono ?_; rintro e W ⟨rfl, hB⟩) | (go_at_call 11; refine (Add_any _ _ _).mono ?_; rintro e W1 ⟨rfl, hB1⟩) | (go_at_call 12; refine (AddDigits_any _ _ _).mono ?_; rintro e W2 ⟨rfl, hB2⟩) | (go_at_call 13; refine (Less_any _ _ _).mono ?_; rintro e W3 ⟨rfl, hB3⟩) | (go_at_call 14; refine (LessDigits_any _ _ _).mono ?_; rintro e W4 ⟨rfl, hB4⟩) | (go_at_call 15; refine (A _).mono ?_; rintro e W5 ⟨rfl, hB5⟩) | (go_at_call 16; refine (B _).mono ?_; rintro e W6 ⟨rfl, hB6⟩))
  go_ret
  refine ⟨ret_bool (by simp), ?_⟩
  have c1 := hB.trans (hB1.mono hB.size)
  have c2 := c1.trans (hB2.mono c1.size)
  have c3 := c2.trans (hB3.mono c2.size)
  have c4 := c3.trans (hB4.mono c3.size)
  have c5 := c4.trans (hB5.mono c4.size)
  exact c5.trans (hB6.mono c5.size)

theorem walk (a b : ByteArray) (n : Int) (w1 : (Lit.int .i64 n).wf = true) (w : World) :
    Calls Try.prog 4 #[.string a, .string b, .int .i64 n] w fun e w' => e = .returned (.bool true) ∧ Below w.heap.size w w' := by
  by_cases h : 200 < (a.size : Int) ∨ (¬ 200 < (a.size : Int) ∧ 200 < (b.size : Int))
  · exact far a b n w h
  · by_cases hn : n < 0 ∨ 1000000 < n
    · exact near a b _ n w (by omega) (by omega) (fun w => Times_no a n w hn) (fun w => TimesDigits_no a n w hn)
    · obtain ⟨m, rfl⟩ := Int.eq_ofNat_of_zero_le (show 0 ≤ n by omega)
      exact near a b _ m w (by omega) (by omega) (fun w => Times_yes a m w (by omega)) (fun w => TimesDigits_yes a m w (by omega))

set_option maxRecDepth 100000 in
theorem lifted (os : Os) (started : os.Started) (H : Type) (enc : TypeId × Value → H) :
    ReturnsInHanded {} Try.checked os 4 .any (Rows.digitsSumsSpec.pre6 enc Try.prog Try.f4 Rows.digitsSumsRow.domain false) (Rows.digitsSumsSpec.post enc Try.prog Try.f4 false true false false) := by
  refine returnsInHanded_of_change (C := Try.checked) own started (by kernel_rfl) Try.func4
    (ChangeSpec.witness6 (enc := enc) (C := Try.checked) false ⟨#[], #[.string ⟨#[]⟩, .string ⟨#[]⟩, .int .i64 0], []⟩ 8 (by kernel_rfl) (by kernel_rfl) (by kernel_rfl) (by kernel_rfl)) ?_
  intro W base args ds gs before hval0 hW hcnd _
  have hval : ∀ (j : Nat) t v, Try.f4.params[j]? = some t → args[j]? = some v → Value.okWide Try.prog W .any base t v := hval0
  have hW' := hW
  obtain ⟨p, q, hA0, hV, rfl, hfz, hnd⟩ := hW
  have hA : DataW.TrodAll enc Try.prog W 0 (fun _ => true) true Try.f4.params.toList args.toList ds p := hA0
  rw [Try.params4] at hA hval
  obtain ⟨v0, vs0, d0, ds0, p0, q0, hargs0, rfl, rfl, h0, r0⟩ := trodAll_cons hA
  obtain ⟨v1, vs1, d1, ds1, p1, q1, hargs1, rfl, rfl, h1, r1⟩ := trodAll_cons r0
  obtain ⟨v2, vs2, d2, ds2, p2, q2, hargs2, rfl, rfl, h2, r2⟩ := trodAll_cons r1
  obtain ⟨rfl, rfl, rfl⟩ := trodAll_nil r2
  obtain rfl : args = #[v0, v1, v2] := by cases args; simp_all
  obtain ⟨rfl, rfl⟩ := trodVars_none hV
  obtain ⟨a0, rfl⟩ := okWide_string Try.underlying9 (hval 0 9 v0 rfl rfl)
  have k0 := h0
  have lt0 : ∀ x ∈ p0, x.block < W.heap.size := by obtain ⟨m, hm⟩ := k0; exact DataW.trod_lt m _ _ _ hm
  obtain ⟨a1, rfl⟩ := okWide_string Try.underlying9 (hval 1 9 v1 rfl rfl)
  have k1 := h1
  have lt1 : ∀ x ∈ p1, x.block < W.heap.size := by obtain ⟨m, hm⟩ := k1; exact DataW.trod_lt m _ _ _ hm
  obtain ⟨a2, rfl, rfl, rfl, w2⟩ := open_int Try.underlying3 (hval 2 3 v2 rfl rfl) h2
  clear hA0 hval0
  refine (walk a0 a1 a2 w2 W).mono fun e W' ⟨he, bel⟩ => ?_
  subst he
  exact ⟨_, rfl, _, _, _, [], _, [], hW', trodAll_mk1 (shut_bool Try.underlying4 _), (trodAll_cons_mk (Below.trod laidOut (by kernel_rfl) (of_decide_eq_true (by kernel_rfl)) k0 bel lt0) (trodAll_cons_mk (Below.trod laidOut (by kernel_rfl) (of_decide_eq_true (by kernel_rfl)) k1 bel lt1) (trodAll_cons_mk (shut_int Try.underlying3 w2) trodAll_mk0))), rfl, bel.frame _, fun h => by cases h⟩

theorem over : Rows.digitsSumsRow.holds Try.pinned (OpenSpec.ofChange Rows.digitsSumsSpec) :=
  OpenClaim.holds_of_wide 4 Try.f4 rfl rfl rfl rfl rfl rfl rfl ⟨rfl, rfl, rfl, rfl, rfl⟩ rfl rfl rfl rfl rfl (by kernel_rfl) Try.func4 (by kernel_rfl)
    (of_decide_eq_true (by kernel_rfl)) (by unfold Func.isWrapper; first | (rw [if_pos (by decide +kernel)]; kernel_rfl) | (rw [if_neg (by decide +kernel)]; exact ⟨rfl, rfl⟩))
    (fun os started H enc _ => lifted os started H enc)
end Go.Proofs.Ytbckmahmlgjkpaa.digitsSums
namespace Go.Proofs.Ytbckmahmlgjkpaa
theorem digitsSums_holds : Rows.DigitsSumsSaid := digitsSums.over
end Go.Proofs.Ytbckmahmlgjkpaa
