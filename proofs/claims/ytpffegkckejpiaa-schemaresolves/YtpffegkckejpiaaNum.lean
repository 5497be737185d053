/- digits.Plain, and the document's example. -/
import Derived.Test.YtpffegkckejpiaaTop
import Derived.Test.YtpffegkckejpiaaGath
import Derived.Test.YtpffegkckejpiaaSpread
import Derived.Test.YtpffegkckejpiaaRefC
import Derived.Test.YtpffegkckejpiaaPlus
import Derived.Test.YtpffegkckejpiaaText
import Derived.Laws.Concat
import Derived.ProofKit
import Derived.OpenShut
import Derived.ChangeOld
import Derived.Below
set_option linter.unusedVariables false
set_option linter.unusedSimpArgs false
namespace Go.Proofs.Ytpffegkckejpiaa
open Go.RowKit Go.Shelf

set_option maxRecDepth 100000 in
set_option maxHeartbeats 1000000 in
theorem Plain_no (s : ByteArray) (base : Int) (w : World) (hok : okS s base = false) :
    Calls Try.prog 38 #[.string s, .int .i64 base] w fun e w' => e = .returned (.tuple #[.string ⟨#[]⟩, .bool false]) ∧ Below w.heap.size w w' := by
  have R := read_no s base w hok
  go_enter Try.func38, Try.ntmps38
  go_wp2_with (first | (go_at_call 50; refine R.mono ?_; rintro e w1 ⟨rfl, hB⟩))
  go_ret2
  exact ⟨rfl, hB⟩

set_option maxRecDepth 100000 in
set_option maxHeartbeats 1000000 in
theorem Plain_ten (s : ByteArray) (w : World) (hok : okS s 10 = true) :
    Calls Try.prog 38 #[.string s, .int .i64 10] w fun e w' => e = .returned (.tuple #[.string (decB (numB s 10)), .bool true]) ∧ Below w.heap.size w w' := by
  have R := read_yes s 10 w hok
  have hs := okS_iff.1 hok
  have hs2 := hs.2.2.1
  have hdg := (lsd_dg (base := 10) hok).trim
  have hcn := canon_trim (lsd s)
  have hv : val 10 (trimL (lsd s)) = numB s 10 := val_trim _ _
  have hl : (trimL (lsd s)).length ≤ 5000 := by rw [trimL_len]; have := trimLen_le (lsd s); rw [lsd_len] at this; omega
  generalize trimL (lsd s) = T at R hdg hcn hv hl
  have HT : Hid (textB T = decB (numB s 10)) := dec_of hdg hcn hv
  clear hs hs2 hok hv hcn
  go_enter Try.func38, Try.ntmps38
  go_wp2_with fail
  refine R.mono ?_
  rintro e w1 ⟨v1, rfl, hO1, hB1⟩
  obtain ⟨p1, c1, rfl, -, -, hr1, -⟩ := hO1.form
  go_wp2_with fail
  refine (text_any p1 c1 T w1 (by omega) hdg hr1).mono ?_
  rintro e w2 ⟨rfl, hB2⟩
  rw [HT.out]
  go_wp2
  go_ret2
  exact ⟨rfl, hB1.trans (hB2.mono hB1.size)⟩

set_option maxRecDepth 100000 in
set_option maxHeartbeats 1000000 in
theorem Plain_other (s : ByteArray) (base : Nat) (w : World) (hok : okS s base = true) (hne : base ≠ 10) :
    Calls Try.prog 38 #[.string s, .int .i64 base] w fun e w' => e = .returned (.tuple #[.string (decB (numB s base)), .bool true]) ∧ Below w.heap.size w w' := by
  have R := read_yes s base w hok
  have hs := okS_iff.1 hok
  have hs2 := hs.2.2.1
  have hbb := baseP_iff.1 hs.1
  have hb1 : base ≤ 16 := by omega
  have hb2 : 2 ≤ base := by omega
  have hdg := (lsd_dg hok).trim
  have hv : val base (trimL (lsd s)) = numB s base := val_trim _ _
  have hl : (trimL (lsd s)).length ≤ 5000 := by rw [trimL_len]; have := trimLen_le (lsd s); rw [lsd_len] at this; omega
  have hbne : ((base : Int) != 10) = true := by simp; omega
  generalize trimL (lsd s) = T at R hdg hv hl
  have HV : Hid (val base T = numB s base) := hv
  clear hs hs2 hok hv hbb
  go_enter Try.func38, Try.ntmps38
  go_wp2_with fail
  refine R.mono ?_
  rintro e w1 ⟨v1, rfl, hO1, hB1⟩
  obtain ⟨p1, c1, rfl, hc1, -, hr1, -⟩ := hO1.form
  have GA := gather_any p1 c1 base T w1 hl hc1 hb1 hb2 hdg hr1
  go_wp2_with fail
  refine GA.mono ?_
  rintro e w2 ⟨v2, M, rfl, hO2, hB2, dM, cM, vM, lM⟩
  obtain ⟨p2, c2, rfl, -, -, hr2, -⟩ := hO2.form
  have SP := spread_any p2 c2 M w2 hr2 dM lM
  have HVM : Hid (val 1000000000 M = val base T) := vM
  clear vM GA
  go_wp2_with fail
  refine SP.mono ?_
  rintro e w3 ⟨v3, l3, rfl, hO3, hB3, d3, k3, e3, n3⟩
  obtain ⟨p3, c3, rfl, -, -, hr3, -⟩ := hO3.form
  have HT : Hid (textB l3 = decB (numB s base)) := dec_of d3 k3 (by rw [e3, HVM.out, HV.out])
  clear e3 SP
  go_wp2_with fail
  refine (text_any p3 c3 l3 w3 (by omega) d3 hr3).mono ?_
  rintro e w4 ⟨rfl, hB4⟩
  rw [HT.out]
  go_wp2
  go_ret2
  exact ⟨rfl, (hB1.trans (hB2.mono hB1.size)).trans ((hB3.mono (Nat.le_trans hB1.size hB2.size)).trans (hB4.mono (Nat.le_trans (Nat.le_trans hB1.size hB2.size) hB3.size)))⟩

theorem Plain_yes (s : ByteArray) (base : Nat) (w : World) (hok : okS s base = true) :
    Calls Try.prog 38 #[.string s, .int .i64 base] w fun e w' => e = .returned (.tuple #[.string (decB (numB s base)), .bool true]) ∧ Below w.heap.size w w' := by
  by_cases h : base = 10
  · subst h; exact Plain_ten s w hok
  · exact Plain_other s base w hok h

end Go.Proofs.Ytpffegkckejpiaa
namespace Go.Proofs.Ytpffegkckejpiaa
open Go.RowKit

/-- The digits that are written of a number, the least first. -/
def dl (n : Nat) : List Nat := if n = 0 then [0] else carP 10 n
theorem dl_val (n : Nat) : val 10 (dl n) = n := by
  unfold dl
  split
  · rename_i h; rw [h]; rfl
  · exact carP_val (by decide) n
theorem dl_dg (n : Nat) : Dg 10 (dl n) := by
  unfold dl
  split
  · intro d h; simp at h; omega
  · exact carP_dg (by decide) n
theorem dec_list (n : Nat) : (decB n).data.toList = (dl n).reverse.map fun d => UInt8.ofNat (48 + d) := by
  unfold dl decB
  split
  · rename_i h; rw [h, carP_zero]; rfl
  · rename_i h
    unfold textB
    rw [if_neg (by rw [carP_pos (by decide) (by omega)]; simp)]
theorem dec_sz (n : Nat) : (decB n).size = (dl n).length := by
  have := congrArg List.length (dec_list n)
  simpa using this
theorem dl_short {m n : Nat} (h : (dl m).length < (dl n).length) : m < n := by
  have h1 := val_lt (b := 10) (by decide) (dl_dg m)
  rw [dl_val] at h1
  have hm : 1 ≤ (dl m).length := by
    unfold dl
    split
    · simp
    · rw [carP_pos (by decide) (by omega)]; simp
  have hn : n ≠ 0 := by
    rintro rfl
    rw [show dl 0 = [0] from rfl, List.length_singleton] at h
    omega
  have e : dl n = carP 10 n := by unfold dl; rw [if_neg hn]
  have h2 := canon_low (b := 10) (by decide) (canon_carP (b := 10) (by decide) n) (by rw [carP_pos (b := 10) (by decide) (by omega)]; simp)
  rw [carP_val (by decide), ← e] at h2
  have h3 : 10 ^ (dl m).length ≤ 10 ^ ((dl n).length - 1) := Nat.pow_le_pow_right (by decide) (by omega)
  omega
end Go.Proofs.Ytpffegkckejpiaa
namespace Go.Proofs.Ytpffegkckejpiaa
open Go.RowKit

theorem below_one (w1 : World) (w : World) (h : Below w.heap.size w w1) : Below w.heap.size w (w1.alloc (.cells #[.int .i64 0] 3)) := h.alloc h.size _

set_option maxRecDepth 100000 in
set_option maxHeartbeats 2000000 in
theorem PlainDigits_no (s : ByteArray) (base : Int) (w : World) (hok : okS s base = false) :
    Calls Try.prog 42 #[.string s, .int .i64 base] w fun e w' => e = .returned (.tuple #[.string ⟨#[]⟩, .bool false]) ∧ Below w.heap.size w w' := by
  have R := digitsOf_no s base w hok
  have NL := fun w => nil_is (w := w)
  go_enter Try.func42, Try.ntmps42
  go_wp2_with (first | (go_at_call 59; refine R.mono ?_; rintro e w1 ⟨rfl, hB⟩))
  go_ret2
  exact ⟨rfl, hB⟩

set_option maxRecDepth 100000 in
set_option maxHeartbeats 2000000 in
theorem PlainDigits_ten (s : ByteArray) (w : World) (hok : okS s 10 = true) :
    Calls Try.prog 42 #[.string s, .int .i64 10] w fun e w' => e = .returned (.tuple #[.string (decB (numB s 10)), .bool true]) ∧ Below w.heap.size w w' := by
  have R := digitsOf_yes s 10 w hok
  have hs := okS_iff.1 hok
  have hs1 := hs.2.1
  have hs2 := hs.2.2.1
  have hdg := lsd_dg (base := 10) hok
  obtain ⟨L, hL⟩ : ∃ L, msd s.data.toList = L := ⟨_, rfl⟩
  have hLl : L.length = s.size := by rw [← hL]; simp [msd]
  have e2 : lsd s = L.reverse := by unfold lsd; rw [hL]
  have e3 : numB s 10 = val 10 L.reverse := by unfold numB; rw [e2]
  rw [e3]
  rw [e2] at hdg
  rw [hL] at R
  have h1 : 1 ≤ L.length := by omega
  have h2 : L.length ≤ 5000 := by omega
  clear hok hs hs1 hs2 hL hLl e2 e3
  go_enter Try.func42, Try.ntmps42
  go_wp2_with fail
  refine R.mono ?_
  rintro e w1 ⟨v1, rfl, hO, hB⟩
  obtain ⟨p, c, rfl, hc1, hc2, hrd, hbk, -, -⟩ := hO.form
  obtain ⟨b, o, rfl, hcell⟩ := hrd.at (by omega)
  have hb1 : b < w1.heap.size := (hbk _ rfl).2
  have NL := fun w => nil_not (w := w) ⟨b, o, none⟩ L.length c
  have HC : Hid _ := hcell
  have hBa := below_one w1 w hB
  have hb2 : Below w1.heap.size w1 (w1.alloc (.cells #[.int .i64 0] 3)) := (Below.refl _ w1).alloc (Nat.le_refl _) _
  clear hbk hO hrd R hcell
  go_wp2
  go_loopw [7, 8] (fun v iv wr => ∃ (k : Nat), k ≤ L.length ∧ iv = .int .i64 ((k : Int) - 1) ∧ Hid (Own .i64 3 w1.heap.size wr v (L.drop k).reverse) ∧ Below w1.heap.size w1 wr) (fun _ iv _ => (intOf iv + 1).toNat)
  case atStart => exact ⟨L.length, Nat.le_refl _, rfl, (by rw [List.drop_length]; exact Own.nil _ _ _ _), hb2⟩
  case round =>
    obtain ⟨k, hk, rfl, HO, hBw⟩ := hrel
    obtain ⟨q, qc, rfl, -, -, hqr, -, -, -⟩ := HO.out.form
    cases k with
    | zero =>
      have h00 : ¬ (0 : Int) ≤ ((0 : Nat) : Int) - 1 := by omega
      rw [List.drop_zero] at hqr ⊢
      obtain ⟨M, hM⟩ : ∃ M, L.reverse = M := ⟨_, rfl⟩
      have hMl : M.length = L.length := by rw [← hM]; simp
      rw [hM] at hqr hdg ⊢
      have HM : Hid (L.reverse = M) := hM
      have WR := written_any q qc M wr hqr (by omega) hdg (by omega)
      have HBF : Hid (Below w.heap.size w wr) := hB.trans (hBw.mono hB.size)
      clear hqr HO hM hMl
      go_wp2_with (first | (go_at_call 60; refine WR.mono ?_; rintro e w4 ⟨rfl, hB4⟩))
      go_ret2
      exact ⟨(by rw [HM.out]; rfl), HBF.out.trans (hB4.mono HBF.out.size)⟩
    | succ j =>
      have hj : j < L.length := by omega
      have hi : (((j + 1 : Nat) : Int) - 1) = (j : Int) := by omega
      have h00 : (0 : Int) ≤ j := by omega
      have c0 := (hBw.cell (p := ⟨b, o + j, none⟩) hb1).trans (HC.out j hj)
      obtain ⟨M, hM⟩ : ∃ M, (L.drop (j + 1)).reverse = M := ⟨_, rfl⟩
      have HM : Hid ((L.drop (j + 1)).reverse = M) := hM
      have hMl : M.length ≤ 5000 := by rw [← hM]; simp; omega
      rw [hM] at HO ⊢
      obtain ⟨g, cp, w2, hrun, HO2, hB2⟩ := push64 HO.out hBw.size (nAt L j) (by omega)
      have HO2 : Hid (Own .i64 3 w1.heap.size w2 (.slice (some ⟨g, 0, none⟩) (M.length + 1) cp) (L.drop j).reverse) := by
        rw [drop_cons hj, List.reverse_cons, HM.out]
        exact HO2
      generalize nAt L j = x at c0 hrun
      rw [hi]
      have hli : (j : Int) < L.length := by omega
      clear hi HO hM hqr
      go_wp2_with (at_builtin; refine wpList_append_run rfl _ _ 80 rfl rfl rfl hrun ?_)
      go_roundw
      case rel => exact ⟨j, by omega, by go_num, HO2, hBw.trans hB2⟩
      case measure => simp [intOf] <;> omega

set_option maxRecDepth 100000 in
set_option maxHeartbeats 2000000 in
theorem PlainDigits_other (s : ByteArray) (base : Nat) (w : World) (hok : okS s base = true) (hne : base ≠ 10) :
    Calls Try.prog 42 #[.string s, .int .i64 base] w fun e w' => e = .returned (.tuple #[.string (decB (numB s base)), .bool true]) ∧ Below w.heap.size w w' := by
  have R := digitsOf_yes s base w hok
  have hs := okS_iff.1 hok
  have hs1 := hs.2.1
  have hs2 := hs.2.2.1
  have hbb := baseP_iff.1 hs.1
  have hdg := lsd_dg hok
  obtain ⟨L, hL⟩ : ∃ L, msd s.data.toList = L := ⟨_, rfl⟩
  have hLl : L.length = s.size := by rw [← hL]; simp [msd]
  have e2 : lsd s = L.reverse := by unfold lsd; rw [hL]
  have e3 : numB s base = val base L.reverse := by unfold numB; rw [e2]
  rw [e3]
  have hdL : Dg base L := fun d hd => hdg d (by rw [e2]; exact List.mem_reverse.2 hd)
  rw [hL] at R
  have h1 : 1 ≤ L.length := by omega
  have h2 : L.length ≤ 5000 := by omega
  have hb16 : base ≤ 16 := by omega
  have hbne : ((base : Int) == 10) = false := beq_false_of_ne (by omega)
  clear hok hs hs1 hs2 hL hLl e2 e3 hbb hdg
  go_enter Try.func42, Try.ntmps42
  go_wp2_with fail
  refine R.mono ?_
  rintro e w1 ⟨v1, rfl, hO, hB⟩
  obtain ⟨p, c, rfl, hc1, hc2, hrd, hbk, -, -⟩ := hO.form
  obtain ⟨b, o, rfl, hcell⟩ := hrd.at (by omega)
  have hb1 : b < w1.heap.size := (hbk _ rfl).2
  have NL := fun w => nil_not (w := w) ⟨b, o, none⟩ L.length c
  have HC : Hid _ := hcell
  have HO1 : Hid _ := own_one w1 w1.heap.size (Nat.le_refl _)
  have hb2 : Below w1.heap.size w1 (w1.alloc (.cells #[.int .i64 0] 3)) := (Below.refl _ w1).alloc (Nat.le_refl _) _
  clear hbk hO hrd R hcell
  go_wp2
  go_loopw [7, 9] (fun v iv wr => ∃ (i : Nat) (out : List Nat), i ≤ L.length ∧ iv = .int .i64 i ∧ Hid (Dg 10 out ∧ 0 < out.length ∧ val 10 out = val base (L.take i).reverse ∧ out.length ≤ 1 + 64 * i) ∧ Hid (Own .i64 3 w1.heap.size wr v out) ∧ Below w1.heap.size w1 wr) (fun _ iv _ => L.length - (intOf iv).toNat)
  case atStart => exact ⟨0, [0], Nat.zero_le _, rfl, ⟨(fun d h => by simp at h; omega), by simp, by simp [val], by simp⟩, HO1, hb2⟩
  case round =>
    obtain ⟨i, out, hi, rfl, HV, HO, hBw⟩ := hrel
    obtain ⟨q, qc, rfl, -, -, hqr, -, -, -⟩ := HO.out.form
    obtain ⟨hvd, hv0, hvv, hvl⟩ := HV.out
    by_cases hlt : i < L.length
    · have hli : (i : Int) < L.length := by omega
      have c0 := (hBw.cell (p := ⟨b, o + i, none⟩) hb1).trans (HC.out i hlt)
      have hdi := hdL.at hlt
      have hSV : val base (L.take (i + 1)).reverse = base * val base (L.take i).reverse + nAt L i := by rw [take_snoc hlt, List.reverse_append, List.reverse_singleton, List.singleton_append, val, Nat.add_comm]
      generalize nAt L i = x at c0 hdi hSV
      have TM := rtimes_any q qc out base x wr hqr hv0 hvd (by omega) (by omega) (by omega)
      have HW : Hid (∀ l' : List Nat, val 10 l' = base * val 10 out + x → val 10 l' = val base (L.take (i + 1)).reverse) := fun l' h => by rw [hSV, ← hvv]; exact h
      clear hqr hvv hSV HO HV
      go_wp2_with (first | (go_at_call 61; refine TM.mono ?_; rintro e w3 ⟨v3, l3, rfl, hO3, hB3, d3, k3, e3, n3⟩; obtain ⟨p3, c3, rfl, -⟩ := hO3.form; have HE3 : Hid _ := e3; have HO3 : Hid (Own .i64 3 wr.heap.size w3 (.slice p3 l3.length c3) l3) := hO3; clear e3 hO3))
      go_roundw
      case rel => exact ⟨i + 1, l3, by omega, by go_num, ⟨d3, k3, HW.out _ HE3.out, by omega⟩, Own.mono HO3.out hBw.size, hBw.trans (hB3.mono hBw.size)⟩
      case measure => simp [intOf]; omega
    · obtain rfl : i = L.length := by omega
      rw [List.take_length] at hvv
      have WR := written_any q qc out wr hqr hv0 hvd (by omega)
      rw [hvv] at WR
      have HBF : Hid (Below w.heap.size w wr) := hB.trans (hBw.mono hB.size)
      clear hqr hvv HO HV
      go_wp2_with (first | (go_at_call 60; refine WR.mono ?_; rintro e w4 ⟨rfl, hB4⟩))
      go_ret2
      exact ⟨rfl, HBF.out.trans (hB4.mono HBF.out.size)⟩
end Go.Proofs.Ytpffegkckejpiaa
namespace Go.Proofs.Ytpffegkckejpiaa
open Go.RowKit

theorem dec_small {n : Nat} (h : n ≤ 9) : decB n = ⟨#[UInt8.ofNat (48 + n)]⟩ := by
  by_cases h0 : n = 0
  · subst h0; unfold decB; rw [carP_zero]; rfl
  · unfold decB
    rw [carP_pos (by decide) (by omega), Nat.div_eq_of_lt (by omega), carP_zero, Nat.mod_eq_of_lt (by omega)]
    simp [textB]
theorem dec_more {n : Nat} (h : 9 < n) : decB n = decB (n / 10) ++ ⟨#[UInt8.ofNat (48 + n % 10)]⟩ := by
  unfold decB
  rw [carP_pos (by decide) (show 0 < n by omega)]
  have hne : carP 10 (n / 10) ≠ [] := by rw [carP_pos (by decide) (by omega)]; simp
  unfold textB
  rw [if_neg hne, if_neg (by simp)]
  apply ByteArray.ext
  simp
theorem dec_size (n : Nat) (h : n < 18446744073709551616) : (decB n).size ≤ 64 := by
  have := carP_len (b := 10) (by decide) 64 n h
  unfold decB textB
  split
  · decide
  · simpa [ByteArray.size] using this

theorem one_digit (d : Nat) (h : d < 10) : (⟨#[48, 49, 50, 51, 52, 53, 54, 55, 56, 57]⟩ : ByteArray).extract d (d + 1) = ⟨#[UInt8.ofNat (48 + d)]⟩ := by
  have hd : d = 0 ∨ d = 1 ∨ d = 2 ∨ d = 3 ∨ d = 4 ∨ d = 5 ∨ d = 6 ∨ d = 7 ∨ d = 8 ∨ d = 9 := by omega
  rcases hd with rfl | rfl | rfl | rfl | rfl | rfl | rfl | rfl | rfl | rfl <;> rfl

set_option maxRecDepth 100000 in
set_option maxHeartbeats 1000000 in
theorem digits_any (n : Nat) (w : World) (hn : (n : Int) ≤ 9223372036854775807) :
    Calls Try.prog 16 #[.int .i64 n] w fun e w' => e = .returned (.string (decB n)) ∧ w' = w := by
  induction n using Nat.strongRecOn with
  | ind n ih =>
    have hx : ((n % 10 : Nat) : Int) = (n : Int) % 10 := by omega
    have S := one_digit (n % 10) (by omega)
    have ho : (⟨#[UInt8.ofNat (48 + n % 10)]⟩ : ByteArray).size = 1 := rfl
    by_cases h9 : (9 : Int) < n
    · have R := ih (n / 10) (by omega) (by omega)
      have hq : ((n / 10 : Nat) : Int) = (n : Int) / 10 := by omega
      rw [hq] at R
      have hs := dec_size (n / 10) (by omega)
      have A := run_string_add_sum (P := Try.prog) w (decB (n / 10)) ⟨#[UInt8.ofNat (48 + n % 10)]⟩ (by omega)
      rw [← dec_more (by omega)] at A
      generalize UInt8.ofNat (48 + n % 10) = x at S A
      clear ih hx hq ho
      go_enter Try.func16, Try.ntmps16
      go_wp2_with (first | (go_at_call 16; refine R.mono ?_; rintro e w ⟨rfl, rfl⟩))
      go_ret
      exact ⟨rfl, rfl⟩
    · have hd := dec_small (n := n) (by omega)
      have hm : n % 10 = n := by omega
      rw [hm, ← hd] at S
      have hm' : (n : Int) % 10 = n := by omega
      clear ih hx hd hm ho
      go_enter Try.func16, Try.ntmps16
      go_wp2
      go_ret
      exact ⟨rfl, rfl⟩
end Go.Proofs.Ytpffegkckejpiaa
namespace Go.Proofs.Ytpffegkckejpiaa
open Go.RowKit

theorem own : ownKnob Try.prog.godebug = none := by kernel_rfl
theorem laidOut : laidOutB Try.prog = true := by kernel_rfl

theorem hexP_digit {d : Nat} (h : d < 10) : hexP ((UInt8.ofNat (48 + d)).toNat : Int) = (d : Int) := by
  have h1 : (UInt8.ofNat (48 + d)).toNat = 48 + d := by simp; omega
  rw [h1]
  unfold hexP
  rw [if_pos (by omega)]
  omega
theorem dec_ok {n : Nat} (h : (decB n).size ≤ 5000) : okS (decB n) 10 = true := by
  refine okS_iff.2 ⟨rfl, ?_, h, ?_⟩
  · rw [dec_sz]
    unfold dl
    split
    · simp
    · rw [carP_pos (by decide) (by omega)]; simp
  · rw [dec_list, List.all_eq_true]
    intro c hc
    obtain ⟨d, hd, rfl⟩ := List.mem_map.1 hc
    have hd' := dl_dg n d (List.mem_reverse.1 hd)
    rw [okD_iff, hexP_digit hd']
    omega
theorem dec_lsd (n : Nat) : lsd (decB n) = dl n := by
  unfold lsd msd
  rw [dec_list, List.map_map, ← List.map_reverse, List.reverse_reverse]
  have : ∀ d, d ∈ dl n → (hexN ∘ fun d => UInt8.ofNat (48 + d)) d = d := by
    intro d hd
    have := hexP_digit (dl_dg n d hd)
    simp only [Function.comp, hexN, this]
    omega
  rw [List.map_congr_left this, List.map_id']
theorem num_dec {n : Nat} (h : (decB n).size ≤ 5000) : num (decB n) = n := by
  rw [num_yes (dec_ok h), dec_lsd, dl_val]
theorem num_small {n : Nat} (h : n < 18446744073709551616) : num (decB n) = n := num_dec (by have := dec_size n h; omega)

theorem PlainDigits_yes (s : ByteArray) (base : Nat) (w : World) (hok : okS s base = true) :
    Calls Try.prog 42 #[.string s, .int .i64 base] w fun e w' => e = .returned (.tuple #[.string (decB (numB s base)), .bool true]) ∧ Below w.heap.size w w' := by
  by_cases h : base = 10
  · subst h; exact PlainDigits_ten s w hok
  · exact PlainDigits_other s base w hok h
end Go.Proofs.Ytpffegkckejpiaa
