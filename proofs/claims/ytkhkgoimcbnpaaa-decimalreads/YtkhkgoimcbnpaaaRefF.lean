/- The document's PlainDigits. -/
import Derived.Test.YtkhkgoimcbnpaaaRefD
set_option linter.unusedVariables false
set_option linter.unusedSimpArgs false
namespace Go.Proofs.Ytkhkgoimcbnpaaa
open Go.RowKit

theorem below_one (w1 : World) (w : World) (h : Below w.heap.size w w1) : Below w.heap.size w (w1.alloc (.cells #[.int .i64 0] 3)) := h.alloc h.size _

set_option maxRecDepth 100000 in
set_option maxHeartbeats 2000000 in
theorem PlainDigits_no (s : ByteArray) (base : Int) (w : World) (hok : okS s base = false) :
    Calls Try.prog 21 #[.string s, .int .i64 base] w fun e w' => e = .returned (.tuple #[.string ⟨#[]⟩, .bool false]) ∧ Below w.heap.size w w' := by
  have R := digitsOf_no s base w hok
  have NL := fun w => nil_is (w := w)
  go_enter Try.func21, Try.ntmps21
  go_wp2_with (first | (go_at_call 35; refine R.mono ?_; rintro e w1 ⟨rfl, hB⟩))
  go_ret2
  exact ⟨rfl, hB⟩

set_option maxRecDepth 100000 in
set_option maxHeartbeats 2000000 in
theorem PlainDigits_ten (s : ByteArray) (w : World) (hok : okS s 10 = true) :
    Calls Try.prog 21 #[.string s, .int .i64 10] w fun e w' => e = .returned (.tuple #[.string (decB (numB s 10)), .bool true]) ∧ Below w.heap.size w w' := by
  have R := digitsOf_yes s 10 w hok
  have hs := okS_iff.1 hok
  have hs1 := hs.2.1
  have hs2 := hs.2.2.1
  have hdg := lsd_dg (base := 10) hok
  obtain ⟨L, hL⟩ : ∃ L, msd s.data.toList = L := ⟨_, rfl⟩
  have hLl : L.length = s.size := by rw [← hL]; simp [msd]
  have e2 : lsd s = L.reverse := by unfold lsd; rw [hL]
  have e3 : numB s 10 = val 10 L.reverse := by unfold numB; rw [e2]
  rw [e3]
  rw [e2] at hdg
  rw [hL] at R
  have h1 : 1 ≤ L.length := by omega
  have h2 : L.length ≤ 5000 := by omega
  clear hok hs hs1 hs2 hL hLl e2 e3
  go_enter Try.func21, Try.ntmps21
  go_wp2_with fail
  refine R.mono ?_
  rintro e w1 ⟨v1, rfl, hO, hB⟩
  obtain ⟨p, c, rfl, hc1, hc2, hrd, hbk, -, -⟩ := hO.form
  obtain ⟨b, o, rfl, hcell⟩ := hrd.at (by omega)
  have hb1 : b < w1.heap.size := (hbk _ rfl).2
  have NL := fun w => nil_not (w := w) ⟨b, o, none⟩ L.length c
  have HC : Hid _ := hcell
  have hBa := below_one w1 w hB
  have hb2 : Below w1.heap.size w1 (w1.alloc (.cells #[.int .i64 0] 3)) := (Below.refl _ w1).alloc (Nat.le_refl _) _
  clear hbk hO hrd R hcell
  go_wp2
  go_loopw [7, 8] (fun v iv wr => ∃ (k : Nat), k ≤ L.length ∧ iv = .int .i64 ((k : Int) - 1) ∧ Hid (Own .i64 3 w1.heap.size wr v (L.drop k).reverse) ∧ Below w1.heap.size w1 wr) (fun _ iv _ => (intOf iv + 1).toNat)
  case atStart => exact ⟨L.length, Nat.le_refl _, rfl, (by rw [List.drop_length]; exact Own.nil _ _ _ _), hb2⟩
  case round =>
    obtain ⟨k, hk, rfl, HO, hBw⟩ := hrel
    obtain ⟨q, qc, rfl, -, -, hqr, -, -, -⟩ := HO.out.form
    cases k with
    | zero =>
      have h00 : ¬ (0 : Int) ≤ ((0 : Nat) : Int) - 1 := by omega
      rw [List.drop_zero] at hqr ⊢
      obtain ⟨M, hM⟩ : ∃ M, L.reverse = M := ⟨_, rfl⟩
      have hMl : M.length = L.length := by rw [← hM]; simp
      rw [hM] at hqr hdg ⊢
      have HM : Hid (L.reverse = M) := hM
      have WR := written_any q qc M wr hqr (by omega) hdg (by omega)
      have HBF : Hid (Below w.heap.size w wr) := hB.trans (hBw.mono hB.size)
      clear hqr HO hM hMl
      go_wp2_with (first | (go_at_call 36; refine WR.mono ?_; rintro e w4 ⟨rfl, hB4⟩))
      go_ret2
      exact ⟨(by rw [HM.out]; rfl), HBF.out.trans (hB4.mono HBF.out.size)⟩
    | succ j =>
      have hj : j < L.length := by omega
      have hi : (((j + 1 : Nat) : Int) - 1) = (j : Int) := by omega
      have h00 : (0 : Int) ≤ j := by omega
      have c0 := (hBw.cell (p := ⟨b, o + j, none⟩) hb1).trans (HC.out j hj)
      obtain ⟨M, hM⟩ : ∃ M, (L.drop (j + 1)).reverse = M := ⟨_, rfl⟩
      have HM : Hid ((L.drop (j + 1)).reverse = M) := hM
      have hMl : M.length ≤ 5000 := by rw [← hM]; simp; omega
      rw [hM] at HO ⊢
      obtain ⟨g, cp, w2, hrun, HO2, hB2⟩ := push64 HO.out hBw.size (nAt L j) (by omega)
      have HO2 : Hid (Own .i64 3 w1.heap.size w2 (.slice (some ⟨g, 0, none⟩) (M.length + 1) cp) (L.drop j).reverse) := by
        rw [drop_cons hj, List.reverse_cons, HM.out]
        exact HO2
      generalize nAt L j = x at c0 hrun
      rw [hi]
      have hli : (j : Int) < L.length := by omega
      clear hi HO hM hqr
      go_wp2_with (at_builtin; refine wpList_append_run rfl _ _ 63 rfl rfl rfl hrun ?_)
      go_roundw
      case rel => exact ⟨j, by omega, by go_num, HO2, hBw.trans hB2⟩
      case measure => simp [intOf] <;> omega

set_option maxRecDepth 100000 in
set_option maxHeartbeats 2000000 in
theorem PlainDigits_other (s : ByteArray) (base : Nat) (w : World) (hok : okS s base = true) (hne : base ≠ 10) :
    Calls Try.prog 21 #[.string s, .int .i64 base] w fun e w' => e = .returned (.tuple #[.string (decB (numB s base)), .bool true]) ∧ Below w.heap.size w w' := by
  have R := digitsOf_yes s base w hok
  have hs := okS_iff.1 hok
  have hs1 := hs.2.1
  have hs2 := hs.2.2.1
  have hbb := baseP_iff.1 hs.1
  have hdg := lsd_dg hok
  obtain ⟨L, hL⟩ : ∃ L, msd s.data.toList = L := ⟨_, rfl⟩
  have hLl : L.length = s.size := by rw [← hL]; simp [msd]
  have e2 : lsd s = L.reverse := by unfold lsd; rw [hL]
  have e3 : numB s base = val base L.reverse := by unfold numB; rw [e2]
  rw [e3]
  have hdL : Dg base L := fun d hd => hdg d (by rw [e2]; exact List.mem_reverse.2 hd)
  rw [hL] at R
  have h1 : 1 ≤ L.length := by omega
  have h2 : L.length ≤ 5000 := by omega
  have hb16 : base ≤ 16 := by omega
  have hbne : ((base : Int) == 10) = false := beq_false_of_ne (by omega)
  clear hok hs hs1 hs2 hL hLl e2 e3 hbb hdg
  go_enter Try.func21, Try.ntmps21
  go_wp2_with fail
  refine R.mono ?_
  rintro e w1 ⟨v1, rfl, hO, hB⟩
  obtain ⟨p, c, rfl, hc1, hc2, hrd, hbk, -, -⟩ := hO.form
  obtain ⟨b, o, rfl, hcell⟩ := hrd.at (by omega)
  have hb1 : b < w1.heap.size := (hbk _ rfl).2
  have NL := fun w => nil_not (w := w) ⟨b, o, none⟩ L.length c
  have HC : Hid _ := hcell
  have HO1 : Hid _ := own_one w1 w1.heap.size (Nat.le_refl _)
  have hb2 : Below w1.heap.size w1 (w1.alloc (.cells #[.int .i64 0] 3)) := (Below.refl _ w1).alloc (Nat.le_refl _) _
  clear hbk hO hrd R hcell
  go_wp2
  go_loopw [7, 9] (fun v iv wr => ∃ (i : Nat) (out : List Nat), i ≤ L.length ∧ iv = .int .i64 i ∧ Hid (Dg 10 out ∧ 0 < out.length ∧ val 10 out = val base (L.take i).reverse ∧ out.length ≤ 1 + 64 * i) ∧ Hid (Own .i64 3 w1.heap.size wr v out) ∧ Below w1.heap.size w1 wr) (fun _ iv _ => L.length - (intOf iv).toNat)
  case atStart => exact ⟨0, [0], Nat.zero_le _, rfl, ⟨(fun d h => by simp at h; omega), by simp, by simp [val], by simp⟩, HO1, hb2⟩
  case round =>
    obtain ⟨i, out, hi, rfl, HV, HO, hBw⟩ := hrel
    obtain ⟨q, qc, rfl, -, -, hqr, -, -, -⟩ := HO.out.form
    obtain ⟨hvd, hv0, hvv, hvl⟩ := HV.out
    by_cases hlt : i < L.length
    · have hli : (i : Int) < L.length := by omega
      have c0 := (hBw.cell (p := ⟨b, o + i, none⟩) hb1).trans (HC.out i hlt)
      have hdi := hdL.at hlt
      have hSV : val base (L.take (i + 1)).reverse = base * val base (L.take i).reverse + nAt L i := by rw [take_snoc hlt, List.reverse_append, List.reverse_singleton, List.singleton_append, val, Nat.add_comm]
      generalize nAt L i = x at c0 hdi hSV
      have TM := rtimes_any q qc out base x wr hqr hv0 hvd (by omega) (by omega) (by omega)
      have HW : Hid (∀ l' : List Nat, val 10 l' = base * val 10 out + x → val 10 l' = val base (L.take (i + 1)).reverse) := fun l' h => by rw [hSV, ← hvv]; exact h
      clear hqr hvv hSV HO HV
      go_wp2_with (first | (go_at_call 37; refine TM.mono ?_; rintro e w3 ⟨v3, l3, rfl, hO3, hB3, d3, k3, e3, n3⟩; obtain ⟨p3, c3, rfl, -⟩ := hO3.form; have HE3 : Hid _ := e3; have HO3 : Hid (Own .i64 3 wr.heap.size w3 (.slice p3 l3.length c3) l3) := hO3; clear e3 hO3))
      go_roundw
      case rel => exact ⟨i + 1, l3, by omega, by go_num, ⟨d3, k3, HW.out _ HE3.out, by omega⟩, Own.mono HO3.out hBw.size, hBw.trans (hB3.mono hBw.size)⟩
      case measure => simp [intOf]; omega
    · obtain rfl : i = L.length := by omega
      rw [List.take_length] at hvv
      have WR := written_any q qc out wr hqr hv0 hvd (by omega)
      rw [hvv] at WR
      have HBF : Hid (Below w.heap.size w wr) := hB.trans (hBw.mono hB.size)
      clear hqr hvv HO HV
      go_wp2_with (first | (go_at_call 36; refine WR.mono ?_; rintro e w4 ⟨rfl, hB4⟩))
      go_ret2
      exact ⟨rfl, HBF.out.trans (hB4.mono HBF.out.size)⟩
end Go.Proofs.Ytkhkgoimcbnpaaa
