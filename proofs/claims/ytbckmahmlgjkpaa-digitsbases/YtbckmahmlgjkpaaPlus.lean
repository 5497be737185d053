/- plus: the sum of two lists. -/
import Derived.Test.YtbckmahmlgjkpaaTimes
set_option linter.unusedVariables false
set_option linter.unusedSimpArgs false
namespace Go.Proofs.Ytbckmahmlgjkpaa
open Go.RowKit

theorem add_step {i c k S : Nat} {out : List Nat} (h : val 10 out + 10 ^ i * c = S) (ho : out.length = i) : val 10 (out ++ [(c + k) % 10]) + 10 ^ (i + 1) * ((c + k) / 10) = S + 10 ^ i * k := by
  rw [val_snoc, ho, Nat.pow_succ]
  have h1 := Nat.mod_add_div (c + k) 10
  generalize (c + k) % 10 = r at *
  generalize (c + k) / 10 = q at *
  have e1 : 10 ^ i * r + 10 ^ i * 10 * q = 10 ^ i * c + 10 ^ i * k := by rw [← Nat.mul_add, ← h1, Nat.mul_add, Nat.mul_assoc]
  omega
theorem val_take_succ (b : Nat) {l : List Nat} {i : Nat} (h : i < l.length) : val b (l.take (i + 1)) = val b (l.take i) + b ^ i * nAt l i := by
  rw [take_snoc h, val_snoc, List.length_take, Nat.min_eq_left (by omega)]
theorem take_whole {l : List Nat} {i : Nat} (h : l.length ≤ i) : l.take i = l := List.take_of_length_le h

theorem plus_end {L M out : List Nat} {c : Nat} (ho : out.length = L.length) (hd : Dg 10 out) (hv : val 10 out + 10 ^ L.length * c = val 10 L + val 10 M) (hL : Canon L) :
    Dg 10 (out ++ carP 10 c) ∧ Canon (out ++ carP 10 c) ∧ val 10 (out ++ carP 10 c) = val 10 L + val 10 M := by
  have h1 : Dg 10 (out ++ carP 10 c) := hd.append (carP_dg (by decide) c)
  have h2 : val 10 (out ++ carP 10 c) = val 10 L + val 10 M := by rw [val_append, carP_val (by decide), ho]; exact hv
  refine ⟨h1, canon_of_low (by decide) h1 ?_, h2⟩
  by_cases hc : c = 0
  · subst hc
    rw [carP_zero, List.append_nil] at h2 ⊢
    by_cases e : L = []
    · left
      subst e
      exact List.eq_nil_of_length_eq_zero (by simpa using ho)
    · right
      rw [h2, ho]
      exact Nat.le_trans (canon_low (by decide) hL e) (Nat.le_add_right _ _)
  · right
    have hne : carP 10 c ≠ [] := by rw [carP_pos (by decide) (by omega)]; simp
    have hlow := canon_low (b := 10) (by decide) (canon_carP (by decide) c) hne
    have hpos : 0 < (carP 10 c).length := by cases h : carP 10 c with | nil => exact absurd h hne | cons => simp
    rw [val_append, List.length_append, show out.length + (carP 10 c).length - 1 = out.length + ((carP 10 c).length - 1) from by omega, Nat.pow_add]
    have := Nat.mul_le_mul_left (10 ^ out.length) hlow
    omega

set_option maxRecDepth 100000 in
set_option maxHeartbeats 2000000 in
theorem plus_ge (p q : Option Addr) (cp cq : Nat) (l m : List Nat) (w : World) (hp : Rd .u8 w p l) (hq : Rd .u8 w q m) (dl : Dg 10 l) (dm : Dg 10 m) (cl : Canon l) (cm : Canon m) (nl : l.length ≤ 5000) (nm : m.length ≤ 5000) (htest : ¬ (l.length : Int) < m.length) :
    Calls Try.prog 26 #[.slice p l.length cp, .slice q m.length cq, .int .u64 10] w fun e w' => ∃ v l', e = .returned v ∧ Own .u8 5 w.heap.size w' v l' ∧ Below w.heap.size w w' ∧ Dg 10 l' ∧ Canon l' ∧ val 10 l' = val 10 l + val 10 m ∧ l'.length ≤ 5100 := by
  obtain ⟨w1, MK, HO0, hB0, -⟩ := own_make (t := 36) Try.underlying36 Try.info5 (by decide) w.heap.size w (l.length + 1) (by omega) (Nat.le_refl _)
  have hcast : ((l.length + 1 : Nat) : Int) = (l.length : Int) + 1 := by omega
  rw [hcast] at MK
  have HO0 : Hid _ := HO0
  have htest' := htest
  clear hcast
  go_enter Try.func26, Try.ntmps26
  go_wp2
  go_loopw [7, 8, 24] (fun u cv iv wr => ∃ (i c : Nat) (out : List Nat), i ≤ l.length ∧ iv = .int .i64 i ∧ cv = .int .u64 c ∧ c ≤ 1 ∧ Hid (out.length = i ∧ Dg 10 out ∧ val 10 out + 10 ^ i * c = val 10 (l.take i) + val 10 (m.take i)) ∧ Hid (Own .u8 5 w.heap.size wr u out) ∧ Below w.heap.size w wr) (fun _ _ iv _ => l.length - (intOf iv).toNat)
  case atStart => exact ⟨0, 0, [], Nat.zero_le _, rfl, rfl, by omega, ⟨rfl, Dg.nil _, by simp [val]⟩, HO0, hB0⟩
  case round =>
    obtain ⟨i, c, out, hi, rfl, rfl, hc, HV, HO, hBw⟩ := hrel
    have hol : out.length ≤ 5000 := by have := HV.out.1; omega
    obtain ⟨r, rc, rfl, -⟩ := HO.out.form
    by_cases hlt : i < l.length
    · obtain ⟨b, o, rfl, hcell⟩ := hp.at (by omega)
      have c0 := (hBw.cell (p := ⟨b, o + i, none⟩) (World.block_lt_of_cell? w ⟨b, o + i, none⟩ (hcell i hlt))).trans (hcell i hlt)
      have hdi := dl.at hlt
      have hli : (i : Int) < l.length := by omega
      have hSL := val_take_succ 10 hlt
      by_cases hlm : i < m.length
      · obtain ⟨b', o', rfl, hcell'⟩ := hq.at (by omega)
        have c1 := (hBw.cell (p := ⟨b', o' + i, none⟩) (World.block_lt_of_cell? w ⟨b', o' + i, none⟩ (hcell' i hlm))).trans (hcell' i hlm)
        have hdm := dm.at hlm
        have hlj : (i : Int) < m.length := by omega
        have hSM := val_take_succ 10 hlm
        generalize nAt l i = d at c0 hdi hSL
        generalize nAt m i = e at c1 hdm hSM
        have HV1 := add_step (k := d + e) HV.out.2.2 HV.out.1
        rw [Nat.mul_add, ← Nat.add_assoc c d e] at HV1
        obtain ⟨g, cp', w2, hrun, HO2, hB2⟩ := push8 HO.out hBw.size ((c + d + e) % 10) (by omega)
        have hx : (((c + d + e) % 10 : Nat) : Int) = ((c : Int) + d + e) % 10 := by omega
        rw [hx] at hrun
        have HO2 : Hid _ := HO2
        have HV2 : Hid ((out ++ [(c + d + e) % 10]).length = i + 1 ∧ Dg 10 (out ++ [(c + d + e) % 10]) ∧ val 10 (out ++ [(c + d + e) % 10]) + 10 ^ (i + 1) * ((c + d + e) / 10) = val 10 (l.take (i + 1)) + val 10 (m.take (i + 1))) := ⟨by have := HV.out.1; simp; omega, HV.out.2.1.snoc (by omega), by rw [hSL, hSM]; omega⟩
        clear hx HV1 hcell hcell' hp hq hSL hSM htest
        go_wp2_with (at_builtin; refine wpList_append_run rfl _ _ 36 rfl rfl rfl hrun ?_)
        go_roundw
        case rel => exact ⟨i + 1, (c + d + e) / 10, out ++ [(c + d + e) % 10], by omega, by go_num, by go_num, by omega, HV2, HO2, hBw.trans hB2⟩
        case measure => simp [intOf]; omega
      · have hlj : ¬ (i : Int) < m.length := by omega
        have hSM : m.take (i + 1) = m.take i := by rw [take_whole (by omega), take_whole (by omega)]
        generalize nAt l i = d at c0 hdi hSL
        have HV1 := add_step (k := d) HV.out.2.2 HV.out.1
        obtain ⟨g, cp', w2, hrun, HO2, hB2⟩ := push8 HO.out hBw.size ((c + d) % 10) (by omega)
        have hx : (((c + d) % 10 : Nat) : Int) = ((c : Int) + d) % 10 := by omega
        rw [hx] at hrun
        have HO2 : Hid _ := HO2
        have HV2 : Hid ((out ++ [(c + d) % 10]).length = i + 1 ∧ Dg 10 (out ++ [(c + d) % 10]) ∧ val 10 (out ++ [(c + d) % 10]) + 10 ^ (i + 1) * ((c + d) / 10) = val 10 (l.take (i + 1)) + val 10 (m.take (i + 1))) := ⟨by have := HV.out.1; simp; omega, HV.out.2.1.snoc (by omega), by rw [hSL, hSM]; omega⟩
        clear hx HV1 hcell hp hq hSL hSM htest
        go_wp2_with (at_builtin; refine wpList_append_run rfl _ _ 36 rfl rfl rfl hrun ?_)
        go_roundw
        case rel => exact ⟨i + 1, (c + d) / 10, out ++ [(c + d) % 10], by omega, by go_num, by go_num, by omega, HV2, HO2, hBw.trans hB2⟩
        case measure => simp [intOf]; omega
    · obtain rfl : i = l.length := by omega
      have hV := HV.out
      rw [take_whole (Nat.le_refl _), take_whole (show m.length ≤ l.length by omega)] at hV
      have CA := carried8_any w.heap.size _ out c wr HO.out hBw.size (by omega) (by omega)
      have HF : Hid _ := plus_end (M := m) hV.1 hV.2.1 hV.2.2 cl
      have hcl := carP_len (b := 10) (by decide) 64 c (Nat.lt_of_le_of_lt hc (by decide))
      generalize hcar : out ++ carP 10 c = full at CA HF
      have hfl : full.length ≤ 5100 := by rw [← hcar, List.length_append]; omega
      clear HO HV hV hcar hp hq htest
      go_wp2_with (first | (go_at_call 36; refine CA.mono ?_; rintro e w1 ⟨v1, rfl, hO2, hB2⟩; obtain ⟨p2, cap2, rfl, -⟩ := hO2.form))
      go_ret
      exact ⟨_, _, rfl, hO2, hBw.trans hB2, HF.out.1, HF.out.2.1, HF.out.2.2, hfl⟩

set_option maxRecDepth 100000 in
set_option maxHeartbeats 2000000 in
theorem plus_lt (p q : Option Addr) (cp cq : Nat) (l m : List Nat) (w : World) (hp : Rd .u8 w p l) (hq : Rd .u8 w q m) (dl : Dg 10 l) (dm : Dg 10 m) (cl : Canon l) (cm : Canon m) (nl : l.length ≤ 5000) (nm : m.length ≤ 5000) (htest : (l.length : Int) < m.length) :
    Calls Try.prog 26 #[.slice p l.length cp, .slice q m.length cq, .int .u64 10] w fun e w' => ∃ v l', e = .returned v ∧ Own .u8 5 w.heap.size w' v l' ∧ Below w.heap.size w w' ∧ Dg 10 l' ∧ Canon l' ∧ val 10 l' = val 10 l + val 10 m ∧ l'.length ≤ 5100 := by
  obtain ⟨w1, MK, HO0, hB0, -⟩ := own_make (t := 36) Try.underlying36 Try.info5 (by decide) w.heap.size w (m.length + 1) (by omega) (Nat.le_refl _)
  have hcast : ((m.length + 1 : Nat) : Int) = (m.length : Int) + 1 := by omega
  rw [hcast] at MK
  have HO0 : Hid _ := HO0
  have htest' := htest
  clear hcast
  go_enter Try.func26, Try.ntmps26
  go_wp2
  go_loopw [7, 8, 24] (fun u cv iv wr => ∃ (i c : Nat) (out : List Nat), i ≤ m.length ∧ iv = .int .i64 i ∧ cv = .int .u64 c ∧ c ≤ 1 ∧ Hid (out.length = i ∧ Dg 10 out ∧ val 10 out + 10 ^ i * c = val 10 (m.take i) + val 10 (l.take i)) ∧ Hid (Own .u8 5 w.heap.size wr u out) ∧ Below w.heap.size w wr) (fun _ _ iv _ => m.length - (intOf iv).toNat)
  case atStart => exact ⟨0, 0, [], Nat.zero_le _, rfl, rfl, by omega, ⟨rfl, Dg.nil _, by simp [val]⟩, HO0, hB0⟩
  case round =>
    obtain ⟨i, c, out, hi, rfl, rfl, hc, HV, HO, hBw⟩ := hrel
    have hol : out.length ≤ 5000 := by have := HV.out.1; omega
    obtain ⟨r, rc, rfl, -⟩ := HO.out.form
    by_cases hlt : i < m.length
    · obtain ⟨b, o, rfl, hcell⟩ := hq.at (by omega)
      have c0 := (hBw.cell (p := ⟨b, o + i, none⟩) (World.block_lt_of_cell? w ⟨b, o + i, none⟩ (hcell i hlt))).trans (hcell i hlt)
      have hdi := dm.at hlt
      have hli : (i : Int) < m.length := by omega
      have hSL := val_take_succ 10 hlt
      by_cases hlm : i < l.length
      · obtain ⟨b', o', rfl, hcell'⟩ := hp.at (by omega)
        have c1 := (hBw.cell (p := ⟨b', o' + i, none⟩) (World.block_lt_of_cell? w ⟨b', o' + i, none⟩ (hcell' i hlm))).trans (hcell' i hlm)
        have hdm := dl.at hlm
        have hlj : (i : Int) < l.length := by omega
        have hSM := val_take_succ 10 hlm
        generalize nAt m i = d at c0 hdi hSL
        generalize nAt l i = e at c1 hdm hSM
        have HV1 := add_step (k := d + e) HV.out.2.2 HV.out.1
        rw [Nat.mul_add, ← Nat.add_assoc c d e] at HV1
        obtain ⟨g, cp', w2, hrun, HO2, hB2⟩ := push8 HO.out hBw.size ((c + d + e) % 10) (by omega)
        have hx : (((c + d + e) % 10 : Nat) : Int) = ((c : Int) + d + e) % 10 := by omega
        rw [hx] at hrun
        have HO2 : Hid _ := HO2
        have HV2 : Hid ((out ++ [(c + d + e) % 10]).length = i + 1 ∧ Dg 10 (out ++ [(c + d + e) % 10]) ∧ val 10 (out ++ [(c + d + e) % 10]) + 10 ^ (i + 1) * ((c + d + e) / 10) = val 10 (m.take (i + 1)) + val 10 (l.take (i + 1))) := ⟨by have := HV.out.1; simp; omega, HV.out.2.1.snoc (by omega), by rw [hSL, hSM]; omega⟩
        clear hx HV1 hcell hcell' hp hq hSL hSM htest
        go_wp2_with (at_builtin; refine wpList_append_run rfl _ _ 36 rfl rfl rfl hrun ?_)
        go_roundw
        case rel => exact ⟨i + 1, (c + d + e) / 10, out ++ [(c + d + e) % 10], by omega, by go_num, by go_num, by omega, HV2, HO2, hBw.trans hB2⟩
        case measure => simp [intOf]; omega
      · have hlj : ¬ (i : Int) < l.length := by omega
        have hSM : l.take (i + 1) = l.take i := by rw [take_whole (by omega), take_whole (by omega)]
        generalize nAt m i = d at c0 hdi hSL
        have HV1 := add_step (k := d) HV.out.2.2 HV.out.1
        obtain ⟨g, cp', w2, hrun, HO2, hB2⟩ := push8 HO.out hBw.size ((c + d) % 10) (by omega)
        have hx : (((c + d) % 10 : Nat) : Int) = ((c : Int) + d) % 10 := by omega
        rw [hx] at hrun
        have HO2 : Hid _ := HO2
        have HV2 : Hid ((out ++ [(c + d) % 10]).length = i + 1 ∧ Dg 10 (out ++ [(c + d) % 10]) ∧ val 10 (out ++ [(c + d) % 10]) + 10 ^ (i + 1) * ((c + d) / 10) = val 10 (m.take (i + 1)) + val 10 (l.take (i + 1))) := ⟨by have := HV.out.1; simp; omega, HV.out.2.1.snoc (by omega), by rw [hSL, hSM]; omega⟩
        clear hx HV1 hcell hp hq hSL hSM htest
        go_wp2_with (at_builtin; refine wpList_append_run rfl _ _ 36 rfl rfl rfl hrun ?_)
        go_roundw
        case rel => exact ⟨i + 1, (c + d) / 10, out ++ [(c + d) % 10], by omega, by go_num, by go_num, by omega, HV2, HO2, hBw.trans hB2⟩
        case measure => simp [intOf]; omega
    · obtain rfl : i = m.length := by omega
      have hV := HV.out
      rw [take_whole (Nat.le_refl _), take_whole (show l.length ≤ m.length by omega)] at hV
      have CA := carried8_any w.heap.size _ out c wr HO.out hBw.size (by omega) (by omega)
      have HF : Hid _ := plus_end (M := l) hV.1 hV.2.1 hV.2.2 cm
      have hcl := carP_len (b := 10) (by decide) 64 c (Nat.lt_of_le_of_lt hc (by decide))
      generalize hcar : out ++ carP 10 c = full at CA HF
      have hfl : full.length ≤ 5100 := by rw [← hcar, List.length_append]; omega
      clear HO HV hV hcar hp hq htest
      go_wp2_with (first | (go_at_call 36; refine CA.mono ?_; rintro e w1 ⟨v1, rfl, hO2, hB2⟩; obtain ⟨p2, cap2, rfl, -⟩ := hO2.form))
      go_ret
      exact ⟨_, _, rfl, hO2, hBw.trans hB2, HF.out.1, HF.out.2.1, by rw [Nat.add_comm]; exact HF.out.2.2, hfl⟩

theorem plus_any (p q : Option Addr) (cp cq : Nat) (l m : List Nat) (w : World) (hp : Rd .u8 w p l) (hq : Rd .u8 w q m) (dl : Dg 10 l) (dm : Dg 10 m) (cl : Canon l) (cm : Canon m) (nl : l.length ≤ 5000) (nm : m.length ≤ 5000) :
    Calls Try.prog 26 #[.slice p l.length cp, .slice q m.length cq, .int .u64 10] w fun e w' => ∃ v l', e = .returned v ∧ Own .u8 5 w.heap.size w' v l' ∧ Below w.heap.size w w' ∧ Dg 10 l' ∧ Canon l' ∧ val 10 l' = val 10 l + val 10 m ∧ l'.length ≤ 5100 := by
  by_cases h : (l.length : Int) < m.length
  · exact plus_lt p q cp cq l m w hp hq dl dm cl cm nl nm h
  · exact plus_ge p q cp cq l m w hp hq dl dm cl cm nl nm h
end Go.Proofs.Ytbckmahmlgjkpaa
