/- For all texts a, b and c and every number n: DigitsLaws answers true: sums go both ways and on, a product is a sum again and again, a sum is no less than its parts. No condition. -/
import Derived.Test.YtbckmahmlgjkpaaNum
set_option linter.unusedVariables false
set_option linter.unusedSimpArgs false
namespace Go.Proofs.Ytbckmahmlgjkpaa.digitsLaws
open Go.ChangeShapes Go.WideShapes Go.ChangeAt Go.RowKit Go.Shelf

theorem dec_pow {X k : Nat} (hk : 1 ≤ k) (h : X < 10 ^ k) : (decB X).size ≤ k := by
  rw [dec_sz]
  by_cases h0 : X = 0
  · subst h0; rw [show dl 0 = [0] from rfl, List.length_singleton]; exact hk
  · have e : dl X = carP 10 X := by unfold dl; rw [if_neg h0]
    have h2 := canon_low (b := 10) (by decide) (canon_carP (b := 10) (by decide) X) (by rw [carP_pos (b := 10) (by decide) (by omega)]; simp)
    rw [carP_val (by decide), ← e] at h2
    by_cases hle : (dl X).length ≤ k
    · exact hle
    · have h3 : 10 ^ k ≤ 10 ^ ((dl X).length - 1) := Nat.pow_le_pow_right (by decide) (by omega)
      omega
theorem num_lt {s : ByteArray} (h : s.size ≤ 100) : num s < 10 ^ 100 := by
  unfold num
  split
  · rename_i hok
    have h1 := val_lt (b := 10) (by decide) (lsd_dg (base := 10) hok)
    rw [lsd_len] at h1
    exact Nat.lt_of_lt_of_le h1 (Nat.pow_le_pow_right (by decide) h)
  · exact Nat.pow_pos (by decide)
theorem hundred {A : Nat} (h : A < 10 ^ 100) : 100 * A < 10 ^ 102 := by
  have e : 10 ^ 102 = 100 * 10 ^ 100 := by rw [show (102 : Nat) = 2 + 100 from rfl, Nat.pow_add]
  rw [e]
  exact Nat.mul_lt_mul_of_pos_left h (by decide)

set_option maxRecDepth 100000 in
set_option maxHeartbeats 2000000 in
theorem far (a b c : ByteArray) (n : Int) (w : World) (h : (100 < (a.size : Int)) ∨ (¬ 100 < (a.size : Int) ∧ 100 < (b.size : Int)) ∨ (¬ 100 < (a.size : Int) ∧ ¬ 100 < (b.size : Int) ∧ 100 < (c.size : Int)) ∨ (¬ 100 < (a.size : Int) ∧ ¬ 100 < (b.size : Int) ∧ ¬ 100 < (c.size : Int) ∧ n < 0) ∨ (¬ 100 < (a.size : Int) ∧ ¬ 100 < (b.size : Int) ∧ ¬ 100 < (c.size : Int) ∧ ¬ n < 0 ∧ 30 < n)) :
    Calls Try.prog 6 #[.string a, .string b, .string c, .int .i64 n] w fun e w' => e = .returned (.bool true) ∧ Below w.heap.size w w' := by
  rcases h with h0 | ⟨h0, h1⟩ | ⟨h0, h1, h2⟩ | ⟨h0, h1, h2, h3⟩ | ⟨h0, h1, h2, h3, h4⟩
  all_goals
    go_enter Try.func6, Try.ntmps6
    go_wp2_with (first | (go_at_call 8; refine (alive_any _).mono ?_; rintro e W ⟨rfl, hB⟩))
    go_ret
    exact ⟨rfl, hB⟩

set_option maxRecDepth 100000 in
set_option maxHeartbeats 2000000 in
theorem core (a b c s t u x : ByteArray) (pp : Nat → ByteArray) (n : Nat) (w : World) (h0 : ¬ 100 < (a.size : Int)) (h1 : ¬ 100 < (b.size : Int)) (h2 : ¬ 100 < (c.size : Int)) (h3 : n ≤ 30)
    (C1 : ∀ w, Calls Try.prog 11 #[.string a, .string b] w fun e w' => e = .returned (.string s) ∧ Below w.heap.size w w')
    (C2 : ∀ w, Calls Try.prog 11 #[.string b, .string a] w fun e w' => e = .returned (.string s) ∧ Below w.heap.size w w')
    (C3 : ∀ w, Calls Try.prog 11 #[.string s, .string c] w fun e w' => e = .returned (.string t) ∧ Below w.heap.size w w')
    (C4 : ∀ w, Calls Try.prog 11 #[.string b, .string c] w fun e w' => e = .returned (.string u) ∧ Below w.heap.size w w')
    (C5 : ∀ w, Calls Try.prog 11 #[.string a, .string u] w fun e w' => e = .returned (.string t) ∧ Below w.heap.size w w')
    (C6 : ∀ w, Calls Try.prog 15 #[.string a, .int .i64 n] w fun e w' => e = .returned (.string (pp n)) ∧ Below w.heap.size w w')
    (C7 : ∀ w, Calls Try.prog 13 #[.string s, .string a] w fun e w' => e = .returned (.bool false) ∧ Below w.heap.size w w')
    (C8 : ∀ w, Calls Try.prog 13 #[.string s, .string b] w fun e w' => e = .returned (.bool false) ∧ Below w.heap.size w w')
    (C9 : ∀ w, Calls Try.prog 11 #[.string a, .string ⟨#[48]⟩] w fun e w' => e = .returned (.string x) ∧ Below w.heap.size w w')
    (C10 : ∀ w, Calls Try.prog 15 #[.string a, .int .i64 1] w fun e w' => e = .returned (.string x) ∧ Below w.heap.size w w')
    (CL : ∀ i, i < 30 → ∀ w, Calls Try.prog 11 #[.string (pp i), .string a] w fun e w' => e = .returned (.string (pp (i + 1))) ∧ Below w.heap.size w w') (CP : pp 0 = ⟨#[48]⟩) :
    Calls Try.prog 6 #[.string a, .string b, .string c, .int .i64 n] w fun e w' => e = .returned (.bool true) ∧ Below w.heap.size w w' := by
  have HP : Hid (pp 0 = ⟨#[48]⟩) := CP
  have n0 : ¬ (n : Int) < 0 := by omega
  have n1 : ¬ (30 : Int) < n := by omega
  clear CP
  go_enter Try.func6, Try.ntmps6
  go_wp2_with (first | (go_at_call 8; refine (alive_any _).mono ?_; rintro e W ⟨rfl, hB⟩) | fail)
  refine (C1 _).mono ?_
  rintro e W1 ⟨rfl, hB1⟩
  have c1 := hB.trans (hB1.mono hB.size)
  clear C1 hB hB1
  go_wp2_with fail
  go_loopw [11, 12] (fun pv iv wr => ∃ (i : Nat), i ≤ n ∧ iv = .int .i64 i ∧ pv = .string (pp i) ∧ Below w.heap.size w wr) (fun _ iv _ => n - (intOf iv).toNat)
  case atStart => exact ⟨0, Nat.zero_le _, rfl, by rw [HP.out], c1⟩
  case round =>
    obtain ⟨i, hi, rfl, rfl, hBw⟩ := hrel
    by_cases hlt : i < n
    · have hli : (i : Int) < n := by omega
      have CI := CL i (by omega)
      clear CL C2 C3 C4 C5 C6 C7 C8 C9 C10
      go_wp2_with (first | (go_at_call 11; refine (CI _).mono ?_; rintro e W3 ⟨rfl, hB3⟩))
      go_roundw
      case rel => exact ⟨i + 1, by omega, by go_num, rfl, hBw.trans (hB3.mono hBw.size)⟩
      case measure => simp [intOf]; omega
    · obtain rfl : i = n := by omega
      clear CL c1
      generalize pp i = y at C6 ⊢
      go_wp2_with fail
      refine (C2 _).mono ?_
      rintro e V2 ⟨rfl, g2⟩
      have d2 := hBw.trans (g2.mono hBw.size)
      clear C2 g2 hBw
      go_wp2_with fail
      refine (C3 _).mono ?_
      rintro e V3 ⟨rfl, g3⟩
      have d3 := d2.trans (g3.mono d2.size)
      clear C3 g3 d2
      go_wp2_with fail
      refine (C4 _).mono ?_
      rintro e V4 ⟨rfl, g4⟩
      have d4 := d3.trans (g4.mono d3.size)
      clear C4 g4 d3
      go_wp2_with fail
      refine (C5 _).mono ?_
      rintro e V5 ⟨rfl, g5⟩
      have d5 := d4.trans (g5.mono d4.size)
      clear C5 g5 d4
      go_wp2_with fail
      refine (C6 _).mono ?_
      rintro e V6 ⟨rfl, g6⟩
      have d6 := d5.trans (g6.mono d5.size)
      clear C6 g6 d5
      go_wp2_with fail
      refine (C7 _).mono ?_
      rintro e V7 ⟨rfl, g7⟩
      have d7 := d6.trans (g7.mono d6.size)
      clear C7 g7 d6
      go_wp2_with fail
      refine (C8 _).mono ?_
      rintro e V8 ⟨rfl, g8⟩
      have d8 := d7.trans (g8.mono d7.size)
      clear C8 g8 d7
      go_wp2_with fail
      refine (C9 _).mono ?_
      rintro e V9 ⟨rfl, g9⟩
      have d9 := d8.trans (g9.mono d8.size)
      clear C9 g9 d8
      go_wp2_with fail
      refine (C10 _).mono ?_
      rintro e V10 ⟨rfl, g10⟩
      have d10 := d9.trans (g10.mono d9.size)
      clear C10 g10 d9
      go_wp2
      go_ret
      exact ⟨ret_bool (by simp), d10⟩

theorem near (a b c : ByteArray) (n : Nat) (w : World) (h0 : a.size ≤ 100) (h1 : b.size ≤ 100) (h2 : c.size ≤ 100) (h3 : n ≤ 30) :
    Calls Try.prog 6 #[.string a, .string b, .string c, .int .i64 n] w fun e w' => e = .returned (.bool true) ∧ Below w.heap.size w w' := by
  have hA := hundred (num_lt h0)
  have hB := hundred (num_lt h1)
  have hC := hundred (num_lt h2)
  have hQ : ∀ X, X < 10 ^ 102 → num (decB X) = X := fun X hX => num_dec (Nat.le_trans (dec_pow (by decide) hX) (by decide))
  have z0 : num ⟨#[48]⟩ = 0 := by
    have := num_small (n := 0) (by decide)
    rwa [dec_zero] at this
  generalize 10 ^ 102 = Q at hA hB hC hQ
  refine core a b c (decB (num a + num b)) (decB (num a + num b + num c)) (decB (num b + num c)) (decB (num a)) (fun i => decB (i * num a)) n w (by omega) (by omega) (by omega) h3 ?_ ?_ ?_ ?_ ?_ ?_ ?_ ?_ ?_ ?_ ?_ ?_
  · exact fun w => Add_any a b w
  · intro w; have := Add_any b a w; rwa [Nat.add_comm] at this
  · intro w; have := Add_any (decB (num a + num b)) c w; rwa [hQ _ (by omega)] at this
  · exact fun w => Add_any b c w
  · intro w; have := Add_any a (decB (num b + num c)) w; rwa [hQ _ (by omega), ← Nat.add_assoc] at this
  · exact fun w => Times_yes a n w (by omega)
  · intro w; have := Less_any (decB (num a + num b)) a w; rw [hQ _ (by omega)] at this; rwa [decide_eq_false (by omega)] at this
  · intro w; have := Less_any (decB (num a + num b)) b w; rw [hQ _ (by omega)] at this; rwa [decide_eq_false (by omega)] at this
  · intro w; have := Add_any a ⟨#[48]⟩ w; rwa [z0, Nat.add_zero] at this
  · intro w; have := Times_yes a 1 w (by omega); rwa [Nat.one_mul] at this
  · intro i hi w
    have hm : i * num a ≤ 30 * num a := Nat.mul_le_mul_right _ (by omega)
    have := Add_any (decB (i * num a)) a w
    rw [hQ _ (by omega)] at this
    show Calls _ _ _ _ fun e w' => e = .returned (.string (decB ((i + 1) * num a))) ∧ _
    rwa [Nat.add_mul, Nat.one_mul]
  · show decB (0 * num a) = _
    rw [Nat.zero_mul, dec_zero]

theorem walk (a b c : ByteArray) (n : Int) (w3 : (Lit.int .i64 n).wf = true) (w : World) :
    Calls Try.prog 6 #[.string a, .string b, .string c, .int .i64 n] w fun e w' => e = .returned (.bool true) ∧ Below w.heap.size w w' := by
  by_cases h : 100 < (a.size : Int) ∨ 100 < (b.size : Int) ∨ 100 < (c.size : Int) ∨ n < 0 ∨ 30 < n
  · exact far a b c n w (by omega)
  · obtain ⟨m, rfl⟩ := Int.eq_ofNat_of_zero_le (show 0 ≤ n by omega)
    exact near a b c m w (by omega) (by omega) (by omega) (by omega)

set_option maxRecDepth 100000 in
theorem lifted (os : Os) (started : os.Started) (H : Type) (enc : TypeId × Value → H) :
    ReturnsInHanded {} Try.checked os 6 .any (Rows.digitsLawsSpec.pre6 enc Try.prog Try.f6 Rows.digitsLawsRow.domain false) (Rows.digitsLawsSpec.post enc Try.prog Try.f6 false true false false) := by
  refine returnsInHanded_of_change (C := Try.checked) own started (by kernel_rfl) Try.func6
    (ChangeSpec.witness6 (enc := enc) (C := Try.checked) false ⟨#[], #[.string ⟨#[]⟩, .string ⟨#[]⟩, .string ⟨#[]⟩, .int .i64 0], []⟩ 8 (by kernel_rfl) (by kernel_rfl) (by kernel_rfl) (by kernel_rfl)) ?_
  intro W base args ds gs before hval0 hW hcnd _
  have hval : ∀ (j : Nat) t v, Try.f6.params[j]? = some t → args[j]? = some v → Value.okWide Try.prog W .any base t v := hval0
  have hW' := hW
  obtain ⟨p, q, hA0, hV, rfl, hfz, hnd⟩ := hW
  have hA : DataW.TrodAll enc Try.prog W 0 (fun _ => true) true Try.f6.params.toList args.toList ds p := hA0
  rw [Try.params6] at hA hval
  obtain ⟨v0, vs0, d0, ds0, p0, q0, hargs0, rfl, rfl, h0, r0⟩ := trodAll_cons hA
  obtain ⟨v1, vs1, d1, ds1, p1, q1, hargs1, rfl, rfl, h1, r1⟩ := trodAll_cons r0
  obtain ⟨v2, vs2, d2, ds2, p2, q2, hargs2, rfl, rfl, h2, r2⟩ := trodAll_cons r1
  obtain ⟨v3, vs3, d3, ds3, p3, q3, hargs3, rfl, rfl, h3, r3⟩ := trodAll_cons r2
  obtain ⟨rfl, rfl, rfl⟩ := trodAll_nil r3
  obtain rfl : args = #[v0, v1, v2, v3] := by cases args; simp_all
  obtain ⟨rfl, rfl⟩ := trodVars_none hV
  obtain ⟨a0, rfl⟩ := okWide_string Try.underlying9 (hval 0 9 v0 rfl rfl)
  have k0 := h0
  have lt0 : ∀ x ∈ p0, x.block < W.heap.size := by obtain ⟨m, hm⟩ := k0; exact DataW.trod_lt m _ _ _ hm
  obtain ⟨a1, rfl⟩ := okWide_string Try.underlying9 (hval 1 9 v1 rfl rfl)
  have k1 := h1
  have lt1 : ∀ x ∈ p1, x.block < W.heap.size := by obtain ⟨m, hm⟩ := k1; exact DataW.trod_lt m _ _ _ hm
  obtain ⟨a2, rfl⟩ := okWide_string Try.underlying9 (hval 2 9 v2 rfl rfl)
  have k2 := h2
  have lt2 : ∀ x ∈ p2, x.block < W.heap.size := by obtain ⟨m, hm⟩ := k2; exact DataW.trod_lt m _ _ _ hm
  obtain ⟨a3, rfl, rfl, rfl, w3⟩ := open_int Try.underlying3 (hval 3 3 v3 rfl rfl) h3
  clear hA0 hval0
  refine (walk a0 a1 a2 a3 w3 W).mono fun e W' ⟨he, bel⟩ => ?_
  subst he
  exact ⟨_, rfl, _, _, _, [], _, [], hW', trodAll_mk1 (shut_bool Try.underlying4 _), (trodAll_cons_mk (Below.trod laidOut (by kernel_rfl) (of_decide_eq_true (by kernel_rfl)) k0 bel lt0) (trodAll_cons_mk (Below.trod laidOut (by kernel_rfl) (of_decide_eq_true (by kernel_rfl)) k1 bel lt1) (trodAll_cons_mk (Below.trod laidOut (by kernel_rfl) (of_decide_eq_true (by kernel_rfl)) k2 bel lt2) (trodAll_cons_mk (shut_int Try.underlying3 w3) trodAll_mk0)))), rfl, bel.frame _, fun h => by cases h⟩

theorem over : Rows.digitsLawsRow.holds Try.pinned (OpenSpec.ofChange Rows.digitsLawsSpec) :=
  OpenClaim.holds_of_wide 6 Try.f6 rfl rfl rfl rfl rfl rfl rfl ⟨rfl, rfl, rfl, rfl, rfl⟩ rfl rfl rfl rfl rfl (by kernel_rfl) Try.func6 (by kernel_rfl)
    (of_decide_eq_true (by kernel_rfl)) (by unfold Func.isWrapper; first | (rw [if_pos (by decide +kernel)]; kernel_rfl) | (rw [if_neg (by decide +kernel)]; exact ⟨rfl, rfl⟩))
    (fun os started H enc _ => lifted os started H enc)
end Go.Proofs.Ytbckmahmlgjkpaa.digitsLaws
namespace Go.Proofs.Ytbckmahmlgjkpaa
theorem digitsLaws_holds : Rows.DigitsLawsSaid := digitsLaws.over
end Go.Proofs.Ytbckmahmlgjkpaa
