/- spread: the decimal digits of a wide list. And the document's Digits. -/
import Derived.Test.YtpffegkckejpiaaPlus
set_option linter.unusedVariables false
set_option linter.unusedSimpArgs false
namespace Go.Proofs.Ytpffegkckejpiaa
open Go.RowKit

theorem group_step {i : Nat} {L out js : List Nat} (hi : i < L.length) (ho : out.length = 9 * i) (hv : val 10 out = val 1000000000 (L.take i)) (hjv : val 10 js = nAt L i) :
    val 10 (out ++ js) = val 1000000000 (L.take (i + 1)) := by
  rw [val_append, val_take_succ _ hi, hv, hjv, ho, Nat.pow_mul]

set_option maxRecDepth 100000 in
set_option maxHeartbeats 2000000 in
theorem spread_any (p : Option Addr) (cap : Nat) (L : List Nat) (w : World) (hp : Rd .u32 w p L) (dL : Dg 1000000000 L) (nL : L.length ≤ 1000000) :
    Calls Try.prog 51 #[.slice p L.length cap] w fun e w' => ∃ v l, e = .returned v ∧ Own .u8 5 w.heap.size w' v l ∧ Below w.heap.size w w' ∧ Dg 10 l ∧ Canon l ∧ val 10 l = val 1000000000 L ∧ l.length ≤ 9000000 := by
  obtain ⟨w1, MK, HO0, hB0, -⟩ := own_make (t := 62) Try.underlying62 Try.info5 (by decide) w.heap.size w (L.length * 9) (by omega) (Nat.le_refl _)
  have hcast : ((L.length * 9 : Nat) : Int) = (L.length : Int) * 9 := by omega
  rw [hcast] at MK
  have HO0 : Hid _ := HO0
  clear hcast
  go_enter Try.func51, Try.ntmps51
  go_wp2
  go_loopw [3, 12] (fun u iv wr => ∃ (i : Nat) (out : List Nat), i ≤ L.length ∧ iv = .int .i64 i ∧ Hid (out.length = 9 * i ∧ Dg 10 out ∧ val 10 out = val 1000000000 (L.take i)) ∧ Hid (Own .u8 5 w.heap.size wr u out) ∧ Below w.heap.size w wr) (fun _ iv _ => L.length - (intOf iv).toNat)
  case atStart => exact ⟨0, [], Nat.zero_le _, rfl, ⟨rfl, Dg.nil _, by simp [val]⟩, HO0, hB0⟩
  case round =>
    obtain ⟨i, out, hi, rfl, HV, HO, hBw⟩ := hrel
    have hol : out.length ≤ 9000000 := by have := HV.out.1; omega
    obtain ⟨r, rc, rfl, hr1, hr2, hrr, -⟩ := HO.out.form
    by_cases hlt : i < L.length
    · obtain ⟨b, o, rfl, hcell⟩ := hp.at (by omega)
      have c0 := (hBw.cell (p := ⟨b, o + i, none⟩) (World.block_lt_of_cell? w ⟨b, o + i, none⟩ (hcell i hlt))).trans (hcell i hlt)
      have hdi := dL.at hlt
      have hli : (i : Int) < L.length := by omega
      have HG : Hid (∀ js, val 10 js = nAt L i → val 10 (out ++ js) = val 1000000000 (L.take (i + 1))) := fun js h => group_step hlt HV.out.1 HV.out.2.2 h
      generalize nAt L i = d at c0 hdi HG
      clear hcell hp hrr
      go_wp2
      go_loopw [3, 5, 16] (fun u dv jv wr' => ∃ (j d' : Nat) (js : List Nat), j ≤ 9 ∧ jv = .int .i64 j ∧ dv = .int .u32 d' ∧ d' ≤ d ∧ Hid (js.length = j ∧ Dg 10 js ∧ val 10 js + 10 ^ j * d' = d) ∧ Hid (Own .u8 5 w.heap.size wr' u (out ++ js)) ∧ Below w.heap.size w wr') (fun _ _ jv _ => 9 - (intOf jv).toNat)
      case atStart => exact ⟨0, d, [], by omega, rfl, rfl, Nat.le_refl _, ⟨rfl, Dg.nil _, by simp [val]⟩, by rw [List.append_nil]; exact HO, hBw⟩
      case round =>
        obtain ⟨j, d', js, hj, rfl, rfl, hdd, HJ, HO', hBw'⟩ := hrel
        obtain ⟨r', rc', rfl, -⟩ := HO'.out.form
        by_cases hj9 : j < 9
        · have hjl : (out ++ js).length ≤ 9000010 := by have := HJ.out.1; rw [List.length_append]; omega
          obtain ⟨g, cp', w2, hrun, HO2, hB2⟩ := push8 HO'.out hBw'.size (d' % 10) (by omega)
          have hx : ((d' % 10 : Nat) : Int) = (d' : Int) % 10 := by omega
          rw [hx] at hrun
          have HO2 : Hid (Own .u8 5 w.heap.size w2 (.slice (some ⟨g, 0, none⟩) ((out ++ js).length + 1) cp') (out ++ (js ++ [d' % 10]))) := by rw [← List.append_assoc]; exact HO2
          have HJ2 : Hid ((js ++ [d' % 10]).length = j + 1 ∧ Dg 10 (js ++ [d' % 10]) ∧ val 10 (js ++ [d' % 10]) + 10 ^ (j + 1) * (d' / 10) = d) := by
            obtain ⟨a1, a2, a3⟩ := HJ.out
            refine ⟨by simp; omega, a2.snoc (by omega), ?_⟩
            have h1 : (0 + d') = d' := by omega
            have := add_step (c := d') (k := 0) a3 a1
            simpa using this
          have hji : (j : Int) < 9 := by omega
          generalize (out ++ js).length = n at hrun HO2 hjl
          clear hx HJ HO'
          go_wp2_with (at_builtin; refine wpList_append_run rfl _ _ 62 rfl rfl rfl hrun ?_)
          go_roundw
          case rel => exact ⟨j + 1, d' / 10, js ++ [d' % 10], by omega, by go_num, by go_num, by omega, HJ2, HO2, hBw'.trans hB2⟩
          case measure => simp [intOf]; omega
        · obtain rfl : j = 9 := by omega
          have HV2 : Hid ((out ++ js).length = 9 * (i + 1) ∧ Dg 10 (out ++ js) ∧ val 10 (out ++ js) = val 1000000000 (L.take (i + 1))) := by
            obtain ⟨a1, a2, a3⟩ := HJ.out
            obtain ⟨b1, b2, -⟩ := HV.out
            refine ⟨by rw [List.length_append]; omega, b2.append a2, HG.out js ?_⟩
            omega
          clear HJ
          go_wp2
          go_roundw
          case rel => exact ⟨i + 1, out ++ js, by omega, by go_num, HV2, HO', hBw'⟩
          case measure => simp [intOf]; omega
    · obtain rfl : i = L.length := by omega
      have hV := HV.out
      rw [take_whole (Nat.le_refl _)] at hV
      have T := trim8_any r out rc wr hr1 (by unfold maxLen at hr2; omega) hrr
      have hS := HO.out.short (trimLen_le _)
      have HF : Hid (Dg 10 (trimL out) ∧ Canon (trimL out) ∧ val 10 (trimL out) = val 1000000000 L) := ⟨hV.2.1.trim, canon_trim _, by rw [val_trim]; exact hV.2.2⟩
      have HS : Hid _ := hS
      have hle := trimLen_le out
      clear hV HV HO hp hrr hS
      go_wp2_with (first | (go_at_call 68; refine T.mono ?_; rintro e wr ⟨rfl, rfl⟩))
      go_ret
      exact ⟨_, trimL out, rfl, HS.out, hBw, HF.out.1, HF.out.2.1, HF.out.2.2, by rw [trimL_len]; omega⟩
end Go.Proofs.Ytpffegkckejpiaa
