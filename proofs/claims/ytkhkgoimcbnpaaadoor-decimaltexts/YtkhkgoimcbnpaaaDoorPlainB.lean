/- digits.Plain, and the document's example. -/
import Derived.Test.YtkhkgoimcbnpaaaDoorTop
import Derived.Test.YtkhkgoimcbnpaaaDoorGath
import Derived.Test.YtkhkgoimcbnpaaaDoorSpread
set_option linter.unusedVariables false
set_option linter.unusedSimpArgs false
namespace Go.Proofs.YtkhkgoimcbnpaaaDoor
open Go.RowKit Go.Shelf

set_option maxRecDepth 100000 in
set_option maxHeartbeats 1000000 in
theorem Plain_no (s : ByteArray) (base : Int) (w : World) (hok : okS s base = false) :
    Calls Tryd.prog 16 #[.string s, .int .i64 base] w fun e w' => e = .returned (.tuple #[.string ⟨#[]⟩, .bool false]) ∧ Below w.heap.size w w' := by
  have R := read_no s base w hok
  go_enter Tryd.func16, Tryd.ntmps16
  go_wp2_with (first | (go_at_call 25; refine R.mono ?_; rintro e w1 ⟨rfl, hB⟩))
  go_ret2
  exact ⟨rfl, hB⟩

set_option maxRecDepth 100000 in
set_option maxHeartbeats 1000000 in
theorem Plain_ten (s : ByteArray) (w : World) (hok : okS s 10 = true) :
    Calls Tryd.prog 16 #[.string s, .int .i64 10] w fun e w' => e = .returned (.tuple #[.string (decB (numB s 10)), .bool true]) ∧ Below w.heap.size w w' := by
  have R := read_yes s 10 w hok
  have hs := okS_iff.1 hok
  have hs2 := hs.2.2.1
  have hdg := (lsd_dg (base := 10) hok).trim
  have hcn := canon_trim (lsd s)
  have hv : val 10 (trimL (lsd s)) = numB s 10 := val_trim _ _
  have hl : (trimL (lsd s)).length ≤ 5000 := by rw [trimL_len]; have := trimLen_le (lsd s); rw [lsd_len] at this; omega
  generalize trimL (lsd s) = T at R hdg hcn hv hl
  have HT : Hid (textB T = decB (numB s 10)) := dec_of hdg hcn hv
  clear hs hs2 hok hv hcn
  go_enter Tryd.func16, Tryd.ntmps16
  go_wp2_with fail
  refine R.mono ?_
  rintro e w1 ⟨v1, rfl, hO1, hB1⟩
  obtain ⟨p1, c1, rfl, -, -, hr1, -⟩ := hO1.form
  go_wp2_with fail
  refine (text_any p1 c1 T w1 (by omega) hdg hr1).mono ?_
  rintro e w2 ⟨rfl, hB2⟩
  rw [HT.out]
  go_wp2
  go_ret2
  exact ⟨rfl, hB1.trans (hB2.mono hB1.size)⟩

set_option maxRecDepth 100000 in
set_option maxHeartbeats 1000000 in
theorem Plain_other (s : ByteArray) (base : Nat) (w : World) (hok : okS s base = true) (hne : base ≠ 10) :
    Calls Tryd.prog 16 #[.string s, .int .i64 base] w fun e w' => e = .returned (.tuple #[.string (decB (numB s base)), .bool true]) ∧ Below w.heap.size w w' := by
  have R := read_yes s base w hok
  have hs := okS_iff.1 hok
  have hs2 := hs.2.2.1
  have hbb := baseP_iff.1 hs.1
  have hb1 : base ≤ 16 := by omega
  have hb2 : 2 ≤ base := by omega
  have hdg := (lsd_dg hok).trim
  have hv : val base (trimL (lsd s)) = numB s base := val_trim _ _
  have hl : (trimL (lsd s)).length ≤ 5000 := by rw [trimL_len]; have := trimLen_le (lsd s); rw [lsd_len] at this; omega
  have hbne : ((base : Int) != 10) = true := by simp; omega
  generalize trimL (lsd s) = T at R hdg hv hl
  have HV : Hid (val base T = numB s base) := hv
  clear hs hs2 hok hv hbb
  go_enter Tryd.func16, Tryd.ntmps16
  go_wp2_with fail
  refine R.mono ?_
  rintro e w1 ⟨v1, rfl, hO1, hB1⟩
  obtain ⟨p1, c1, rfl, hc1, -, hr1, -⟩ := hO1.form
  have GA := gather_any p1 c1 base T w1 hl hc1 hb1 hb2 hdg hr1
  go_wp2_with fail
  refine GA.mono ?_
  rintro e w2 ⟨v2, M, rfl, hO2, hB2, dM, cM, vM, lM⟩
  obtain ⟨p2, c2, rfl, -, -, hr2, -⟩ := hO2.form
  have SP := spread_any p2 c2 M w2 hr2 dM lM
  have HVM : Hid (val 1000000000 M = val base T) := vM
  clear vM GA
  go_wp2_with fail
  refine SP.mono ?_
  rintro e w3 ⟨v3, l3, rfl, hO3, hB3, d3, k3, e3, n3⟩
  obtain ⟨p3, c3, rfl, -, -, hr3, -⟩ := hO3.form
  have HT : Hid (textB l3 = decB (numB s base)) := dec_of d3 k3 (by rw [e3, HVM.out, HV.out])
  clear e3 SP
  go_wp2_with fail
  refine (text_any p3 c3 l3 w3 (by omega) d3 hr3).mono ?_
  rintro e w4 ⟨rfl, hB4⟩
  rw [HT.out]
  go_wp2
  go_ret2
  exact ⟨rfl, (hB1.trans (hB2.mono hB1.size)).trans ((hB3.mono (Nat.le_trans hB1.size hB2.size)).trans (hB4.mono (Nat.le_trans (Nat.le_trans hB1.size hB2.size) hB3.size)))⟩

theorem Plain_yes (s : ByteArray) (base : Nat) (w : World) (hok : okS s base = true) :
    Calls Tryd.prog 16 #[.string s, .int .i64 base] w fun e w' => e = .returned (.tuple #[.string (decB (numB s base)), .bool true]) ∧ Below w.heap.size w w' := by
  by_cases h : base = 10
  · subst h; exact Plain_ten s w hok
  · exact Plain_other s base w hok h

end Go.Proofs.YtkhkgoimcbnpaaaDoor
