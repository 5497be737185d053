/- The document's own: RightNumber. -/
import Derived.Test.YtkhkgoimcbnpaaaDoorMovP
set_option linter.unusedVariables false
set_option linter.unusedSimpArgs false
namespace Go.Proofs.YtkhkgoimcbnpaaaDoor
open Go.RowKit

def AllT (t : ByteArray) (k : Nat) : Prop := (t.data.toList.take k).all isD = true
theorem AllT.next {t : ByteArray} {k : Nat} (h : AllT t k) (hk : k < t.size) (hD : isD t[k] = true) : AllT t (k + 1) := by
  unfold AllT at *
  rw [byte_take t k hk, List.all_append, h, List.all_cons, hD]; rfl
theorem AllT.full {t : ByteArray} {k : Nat} (h : AllT t k) (hk : t.size ≤ k) : t.data.toList.all isD = true := by
  unfold AllT at h
  rwa [List.take_of_length_le (by rw [← Lib.size_eq]; exact hk)] at h
theorem bare_bytes {D : ByteArray} (hd : D.data.toList.all isD = true) (h0 : 0 < D.size) : bareL (msd D.data.toList) = (decide (((D[0]'(by omega)).toNat : Int) ≠ 48) && decide (((D[D.size - 1]'(by omega)).toNat : Int) ≠ 48)) := by
  have hl : (msd D.data.toList).length = D.size := by simp [msd]
  have key : ∀ (j : Nat) (h : j < D.size), (nAt (msd D.data.toList) j ≠ 0) = ((D[j].toNat : Int) ≠ 48) := by
    intro j h
    have hD := List.all_eq_true.1 hd _ (byte_mem D j h)
    have hx := isD_hex hD
    have hi := isD_iff.1 hD
    have e : nAt (msd D.data.toList) j = hexN D[j] := by
      unfold nAt msd
      rw [List.getElem?_map, byte_get D j h]
      rfl
    rw [e, hx]
    apply propext
    omega
  unfold bareL
  rw [hl, decide_eq_true h0, Bool.true_and]
  simp only [key 0 h0, key (D.size - 1) (by omega)]

set_option maxRecDepth 100000 in
set_option maxHeartbeats 1000000 in
theorem rnum_bad (b : Bool) (D : ByteArray) (E : Int) (w : World) (hs : (D.size : Int) ≤ 4611686018427387904) (hd : D.data.toList.all isD = false) :
    Calls Tryd.prog 5 #[.agg #[.bool b, .string D, .int .i64 E, .int .i64 0]] w fun e w' => e = .returned (.bool false) ∧ Below w.heap.size w w' := by
  have HD : Hid (D.data.toList.all isD = false) := hd
  clear hd
  go_enter Tryd.func5, Tryd.ntmps5
  go_wp2
  go_loop [3] (fun v => ∃ (k : Nat), k ≤ D.size ∧ v = .int .i64 k ∧ Hid (AllT D k)) (fun v => D.size - (intOf v).toNat)
  case atStart => exact ⟨0, Nat.zero_le _, rfl, rfl⟩
  case round =>
    obtain ⟨k, hk, rfl, HA⟩ := hrel
    by_cases hlt : k < D.size
    · have hl : (k : Int) < D.size := by omega
      by_cases hD : isD D[k] = true
      · have hD' := isD_iff.1 hD
        have g1 := hD'.1
        have g2 := hD'.2
        have HA2 : Hid (AllT D (k + 1)) := HA.out.next hlt hD
        clear hD hD'
        go_wp2
        go_round
        case rel => exact ⟨k + 1, by omega, by go_num, HA2⟩
        case measure => simp [intOf] <;> omega
      · have hD' : ¬ (48 ≤ (D[k].toNat : Int) ∧ (D[k].toNat : Int) ≤ 57) := fun h => hD (isD_iff.2 h)
        have hc : (D[k].toNat : Int) < 48 ∨ (¬ (D[k].toNat : Int) < 48 ∧ (57 : Int) < D[k].toNat) := by omega
        clear hD hD'
        rcases hc with g1 | ⟨g1, g2⟩
        all_goals
          go_wp2
          go_ret
          exact ⟨rfl, (Below.refl _ w).alloc (Nat.le_refl _) _⟩
    · have := HA.out.full (by omega)
      rw [HD.out] at this
      cases this

set_option maxRecDepth 100000 in
set_option maxHeartbeats 1000000 in
theorem rnum_good (b : Bool) (D : ByteArray) (E : Int) (w : World) (hs : (D.size : Int) ≤ 4611686018427387904) (hd : D.data.toList.all isD = true) :
    Calls Tryd.prog 5 #[.agg #[.bool b, .string D, .int .i64 E, .int .i64 0]] w fun e w' => e = .returned (.bool (digsOk D E)) ∧ Below w.heap.size w w' := by
  have HG : Hid (digsOk D E = if D.toList == [48] then decide (E = 0) else (bareL (msd D.data.toList) && (decide (-2000000000 ≤ E) && decide (E ≤ 2000000000)))) := by
    show digsOk D E = _
    unfold digsOk
    rw [hd, Bool.true_and]
  have HB : Hid (∀ h0 : 0 < D.size, bareL (msd D.data.toList) = (decide (((D[0]'(by omega)).toNat : Int) ≠ 48) && decide (((D[D.size - 1]'(by omega)).toNat : Int) ≠ 48))) := fun h0 => bare_bytes hd h0
  have HE : Hid (D.size = 0 → bareL (msd D.data.toList) = false) := fun h => by
    have : (msd D.data.toList).length = 0 := by rw [← h]; simp [msd]
    unfold bareL
    rw [this]
    rfl
  have HD : Hid (D.data.toList.all isD = true) := hd
  clear hd
  generalize digsOk D E = G at HG ⊢
  go_enter Tryd.func5, Tryd.ntmps5
  go_wp2
  go_loop [3] (fun v => ∃ (k : Nat), k ≤ D.size ∧ v = .int .i64 k) (fun v => D.size - (intOf v).toNat)
  case atStart => exact ⟨0, Nat.zero_le _, rfl⟩
  case round =>
    obtain ⟨k, hk, rfl⟩ := hrel
    by_cases hlt : k < D.size
    · have hl : (k : Int) < D.size := by omega
      have hD' := isD_iff.1 (List.all_eq_true.1 HD.out _ (byte_mem D k hlt))
      have g1 := hD'.1
      have g2 := hD'.2
      clear hD'
      go_wp2
      go_round
      case rel => exact ⟨k + 1, by omega, by go_num⟩
      case measure => simp [intOf] <;> omega
    · obtain rfl : k = D.size := by omega
      cases hz : (D.toList == [48])
      · by_cases h0 : D.size = 0
        · have hb := HE.out h0
          have HX : Hid (G = false) := by show _ = _; rw [HG.out, hz, hb]; rfl
          have h0' : ¬ (0 : Int) < D.size := by omega
          clear hb
          go_wp2
          go_ret
          exact ⟨ret_bool (by rw [HX.out]), (Below.refl _ w).alloc (Nat.le_refl _) _⟩
        · have hp : 0 < D.size := by omega
          have hb := HB.out hp
          have h0' : (0 : Int) < D.size := by omega
          have hi : (D.size : Int) - 1 = ((D.size - 1 : Nat) : Int) := by omega
          have hj : ((D.size - 1 : Nat) : Int) < D.size := by omega
          have HX : Hid (G = ((decide (((D[0]'(by omega)).toNat : Int) ≠ 48) && decide (((D[D.size - 1]'(by omega)).toNat : Int) ≠ 48)) && (decide (-2000000000 ≤ E) && decide (E ≤ 2000000000)))) := by show _ = _; rw [HG.out, hz, hb]; rfl
          have hmb : ((D.size - 1 : Nat) : Int) ≤ 4611686018427387904 := by omega
          clear hb
          by_cases t0 : ((D[0]'(by omega)).toNat : Int) = 48
          · have HY : Hid (G = false) := by show _ = _; rw [HX.out, decide_eq_false (by simpa using t0)]; rfl
            go_wp2
            go_ret
            exact ⟨ret_bool (by rw [HY.out]), (Below.refl _ w).alloc (Nat.le_refl _) _⟩
          · have t0' : (((D[0]'(by omega)).toNat : Int) == 48) = false := beq_false_of_ne t0
            have t0b : (((D[0]'(by omega)).toNat : Int) != 48) = true := bne_iff_ne.2 t0
            by_cases t1 : ((D[D.size - 1]'(by omega)).toNat : Int) = 48
            · have HY : Hid (G = false) := by show _ = _; rw [HX.out, decide_eq_false (show ¬ ((D[D.size - 1]'(by omega)).toNat : Int) ≠ 48 by simpa using t1)]; simp
              go_wp2
              go_ret
              exact ⟨ret_bool (by rw [HY.out]), (Below.refl _ w).alloc (Nat.le_refl _) _⟩
            · have t1' : (((D[D.size - 1]'(by omega)).toNat : Int) == 48) = false := beq_false_of_ne t1
              have t1b : (((D[D.size - 1]'(by omega)).toNat : Int) != 48) = true := bne_iff_ne.2 t1
              have HY : Hid (G = (decide (-2000000000 ≤ E) && decide (E ≤ 2000000000))) := by show _ = _; rw [HX.out, decide_eq_true t0, decide_eq_true t1]; rfl
              have hc : ¬ -2000000000 ≤ E ∨ (-2000000000 ≤ E ∧ ¬ E ≤ 2000000000) ∨ (-2000000000 ≤ E ∧ E ≤ 2000000000) := by omega
              rcases hc with q1 | ⟨q1, q2⟩ | ⟨q1, q2⟩
              all_goals
                go_wp2
                go_ret
                exact ⟨ret_bool (by rw [HY.out]; simp <;> omega), (Below.refl _ w).alloc (Nat.le_refl _) _⟩
      · have HX : Hid (G = decide (E = 0)) := by show _ = _; rw [HG.out, hz]; rfl
        go_wp2
        go_ret
        exact ⟨ret_bool (by rw [HX.out, Bool.eq_iff_iff]; simp), (Below.refl _ w).alloc (Nat.le_refl _) _⟩
end Go.Proofs.YtkhkgoimcbnpaaaDoor
