/- carried, of both kinds of lists: the digits of a carry go in behind. -/
import Derived.Test.YtkhkgoimcbnpaaaDoorLeaf
set_option linter.unusedVariables false
set_option linter.unusedSimpArgs false
namespace Go.Proofs.YtkhkgoimcbnpaaaDoor
open Go.RowKit

theorem car_step {b : Nat} (hb : 2 ≤ b) {l l' : List Nat} {c c' : Nat} (h : l' ++ carP b c' = l ++ carP b c) (hc : 0 < c') : (l' ++ [c' % b]) ++ carP b (c' / b) = l ++ carP b c := by
  rw [← h, carP_pos hb hc]; simp
theorem car_len {b : Nat} (hb : 2 ≤ b) {l l' : List Nat} {c c' : Nat} (h : l' ++ carP b c' = l ++ carP b c) (hc : c < 18446744073709551616) : l'.length ≤ l.length + 64 := by
  have h1 := congrArg List.length h
  have h2 := carP_len hb 64 c hc
  simp only [List.length_append] at h1
  omega

set_option maxRecDepth 100000 in
set_option maxHeartbeats 1000000 in
theorem carried32_any (B : Nat) (v : Value) (l : List Nat) (c : Nat) (w : World) (hO : Own .u32 72 B w v l) (hB : B ≤ w.heap.size) (hc : c < 18446744073709551616) (hl : l.length ≤ 549755813888) :
    Calls Tryd.prog 56 #[v, .int .u64 c, .int .u64 1000000000] w fun e w' => ∃ v', e = .returned v' ∧ Own .u32 72 B w' v' (l ++ carP 1000000000 c) ∧ Below B w w' := by
  obtain ⟨p0, c0, rfl, -⟩ := hO.form
  go_enter Tryd.func56, Tryd.ntmps56
  go_wp2
  go_loopw [0, 1] (fun u cv wr => ∃ (l' : List Nat) (c' : Nat), cv = .int .u64 c' ∧ Hid (Own .u32 72 B wr u l') ∧ Hid (l' ++ carP 1000000000 c' = l ++ carP 1000000000 c) ∧ Below B w wr ∧ c' ≤ c) (fun _ cv _ => (intOf cv).toNat)
  case atStart => exact ⟨l, c, rfl, hO, rfl, Below.refl _ _, Nat.le_refl _⟩
  case round =>
    obtain ⟨l', c', rfl, HO, HE, hBw, hcc⟩ := hrel
    obtain ⟨p, cap, rfl, -⟩ := HO.out.form
    by_cases h0 : 0 < c'
    · have hlen := car_len (by decide) HE.out hc
      obtain ⟨g, cp, w1, hrun, HO1, hB1⟩ := push32 HO.out (Nat.le_trans hB hBw.size) (c' % 1000000000) (by omega)
      have HE1 : Hid ((l' ++ [c' % 1000000000]) ++ carP 1000000000 (c' / 1000000000) = l ++ carP 1000000000 c) := car_step (by decide) HE.out h0
      have HO1 : Hid _ := HO1
      have hx : ((c' % 1000000000 : Nat) : Int) = (c' : Int) % 1000000000 := by omega
      rw [hx] at hrun
      have h0' : (0 : Int) < c' := by omega
      clear hx
      go_wp2_with (at_builtin; refine wpList_append_run rfl _ _ 51 rfl rfl rfl hrun ?_)
      go_roundw
      case rel => exact ⟨l' ++ [c' % 1000000000], c' / 1000000000, by go_num, HO1, HE1, hBw.trans hB1, by omega⟩
      case measure => simp [intOf]; omega
    · obtain rfl : c' = 0 := by omega
      go_wp2
      go_ret
      refine ⟨_, rfl, ?_, hBw⟩
      have := HE.out
      rw [carP_zero, List.append_nil] at this
      rw [← this]
      exact HO.out
end Go.Proofs.YtkhkgoimcbnpaaaDoor
