/- The document's own times and written. -/
import Derived.Test.YtkhkgoimcbnpaaaTimes
import Derived.Test.YtkhkgoimcbnpaaaText
set_option linter.unusedVariables false
set_option linter.unusedSimpArgs false
namespace Go.Proofs.Ytkhkgoimcbnpaaa
open Go.RowKit

/-- A list that is not empty, of decimal digits. -/
theorem own_one (w : World) (B : Nat) (hB : B ≤ w.heap.size) : Own .i64 3 B (w.alloc (.cells #[.int .i64 0] 3)) (.slice (some ⟨w.heap.size, 0, none⟩) 1 1) [0] :=
  World.ownsRow_lit w #[.int .i64 0] 1 hB (by unfold maxLen; omega) rfl

set_option maxRecDepth 100000 in
set_option maxHeartbeats 2000000 in
theorem rtimes_any (p : Option Addr) (cap : Nat) (l : List Nat) (f more : Nat) (w : World) (hrd : Rd .i64 w p l) (hl : 0 < l.length) (hd : Dg 10 l) (hf : f ≤ 1000000) (hmore : more ≤ 2000000) (hlen : l.length ≤ 274877906944) :
    Calls Try.prog 37 #[.slice p l.length cap, .int .i64 f, .int .i64 more] w fun e w' => ∃ v' l', e = .returned v' ∧ Own .i64 3 w.heap.size w' v' l' ∧ Below w.heap.size w w' ∧ Dg 10 l' ∧ 0 < l'.length ∧ val 10 l' = f * val 10 l + more ∧ l'.length ≤ l.length + 64 := by
  obtain ⟨b, o, rfl, hcell⟩ := hrd.at hl
  have hbl : b < w.heap.size := World.block_lt_of_cell? w ⟨b, o + 0, none⟩ (hcell 0 hl)
  go_enter Try.func37, Try.ntmps37
  go_wp2
  go_loopw [2, 7, 8] (fun cv u iv wr => ∃ (i c : Nat) (out : List Nat), i ≤ l.length ∧ iv = .int .i64 i ∧ cv = .int .i64 c ∧ c ≤ 2000000 ∧ Hid (out.length = i ∧ Dg 10 out ∧ val 10 out + 10 ^ i * c = f * val 10 (l.take i) + more) ∧ Hid (Own .i64 3 w.heap.size wr u out) ∧ Below w.heap.size w wr) (fun _ _ iv _ => l.length - (intOf iv).toNat)
  case atStart => exact ⟨0, more, [], Nat.zero_le _, rfl, rfl, hmore, ⟨rfl, Dg.nil _, by simp [val]⟩, Own.nil _ _ _ _, Below.refl _ _⟩
  case round =>
    obtain ⟨i, c, out, hi, rfl, rfl, hc, HV, HO, hBw⟩ := hrel
    have hol : out.length ≤ 274877906944 := by have := HV.out.1; omega
    obtain ⟨q, qc, rfl, -⟩ := HO.out.form
    by_cases hlt : i < l.length
    · have c0 := (hBw.cell (p := ⟨b, o + i, none⟩) hbl).trans (hcell i hlt)
      have hdi := hd.at hlt
      have htl : (l.take i).length = i := by rw [List.length_take]; omega
      have HV1 := tp_step (d := nAt l i) HV.out.2.2 HV.out.1 htl
      rw [← take_snoc hlt] at HV1
      generalize nAt l i = d at c0 hdi HV1
      have hmul : (d : Int) * (f : Int) = ((d * f : Nat) : Int) := by simp
      have hle : d * f ≤ 9000000 := Nat.le_trans (Nat.mul_le_mul (show d ≤ 9 by omega) hf) (by decide)
      generalize d * f = m at hmul hle HV1
      obtain ⟨g, cp, w2, hrun, HO2, hB2⟩ := push64 HO.out hBw.size ((c + m) % 10) (by omega)
      have hx : (((c + m) % 10 : Nat) : Int) = ((c : Int) + m) % 10 := by omega
      rw [hx] at hrun
      have HO2 : Hid _ := HO2
      have HV2 : Hid ((out ++ [(c + m) % 10]).length = i + 1 ∧ Dg 10 (out ++ [(c + m) % 10]) ∧ val 10 (out ++ [(c + m) % 10]) + 10 ^ (i + 1) * ((c + m) / 10) = f * val 10 (l.take (i + 1)) + more) := ⟨by have := HV.out.1; simp; omega, HV.out.2.1.snoc (by omega), HV1⟩
      have hli : (i : Int) < l.length := by omega
      clear hx HV1 hcell hrd
      go_wp2_with (at_builtin; refine wpList_append_run rfl _ _ 63 rfl rfl rfl hrun ?_)
      go_roundw
      case rel => exact ⟨i + 1, (c + m) / 10, out ++ [(c + m) % 10], by omega, by go_num, by go_num, by omega, HV2, HO2, hBw.trans hB2⟩
      case measure => simp [intOf]; omega
    · obtain rfl : i = l.length := by omega
      have hV := HV.out
      rw [List.take_length] at hV
      have HV3 : Hid (0 < out.length ∧ out.length = l.length ∧ Dg 10 out ∧ val 10 out + 10 ^ out.length * c = f * val 10 l + more) := ⟨by omega, hV.1, hV.2.1, by rw [hV.1]; exact hV.2.2⟩
      clear hV HV hcell hrd
      go_wp2
      go_loopw [2, 7] (fun cv u wr => ∃ (l' : List Nat) (c' : Nat), cv = .int .i64 c' ∧ Hid (Own .i64 3 w.heap.size wr u l') ∧ Hid (l' ++ carP 10 c' = out ++ carP 10 c ∧ out.length ≤ l'.length) ∧ Below w.heap.size w wr ∧ c' ≤ c) (fun cv _ _ => (intOf cv).toNat)
      case atStart => exact ⟨out, c, rfl, HO, ⟨rfl, Nat.le_refl _⟩, hBw, Nat.le_refl _⟩
      case round =>
        obtain ⟨l', c', rfl, HO', HE, hBw', hcc⟩ := hrel
        obtain ⟨q', qc', rfl, -⟩ := HO'.out.form
        by_cases h0 : 0 < c'
        · have hlen' := car_len (by decide) HE.out.1 (by omega)
          obtain ⟨g, cp, w1, hrun, HO1, hB1⟩ := push64 HO'.out hBw'.size (c' % 10) (by omega)
          have HE1 : Hid ((l' ++ [c' % 10]) ++ carP 10 (c' / 10) = out ++ carP 10 c ∧ out.length ≤ (l' ++ [c' % 10]).length) := ⟨car_step (by decide) HE.out.1 h0, by have := HE.out.2; simp; omega⟩
          have HO1 : Hid _ := HO1
          have hx : ((c' % 10 : Nat) : Int) = (c' : Int) % 10 := by omega
          rw [hx] at hrun
          have h0' : (0 : Int) < c' := by omega
          clear hx
          go_wp2_with (at_builtin; refine wpList_append_run rfl _ _ 63 rfl rfl rfl hrun ?_)
          go_roundw
          case rel => exact ⟨l' ++ [c' % 10], c' / 10, by go_num, HO1, HE1, hBw'.trans hB1, by omega⟩
          case measure => simp [intOf]; omega
        · obtain rfl : c' = 0 := by omega
          have hne : ((l'.length : Int) == 0) = false := beq_false_of_ne (by have := HE.out.2; have := HV3.out.1; omega)
          go_wp2
          go_ret
          have hE := HE.out.1
          rw [carP_zero, List.append_nil] at hE
          obtain ⟨v1, v2, v3, v4⟩ := HV3.out
          have hln := carP_len (b := 10) (by decide) 64 c (Nat.lt_of_le_of_lt hc (by decide))
          refine ⟨_, l', rfl, HO'.out, hBw', ?_, ?_, ?_, ?_⟩
          · rw [hE]; exact v3.append (carP_dg (by decide) c)
          · have := HE.out.2; omega
          · rw [hE, val_append, carP_val (by decide)]; exact v4
          · rw [hE, List.length_append]; omega
end Go.Proofs.Ytkhkgoimcbnpaaa
