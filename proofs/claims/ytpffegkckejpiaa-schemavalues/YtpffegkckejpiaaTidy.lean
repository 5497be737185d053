/- The document's own: tidy. -/
import Derived.Test.YtpffegkckejpiaaDnum
set_option linter.unusedVariables false
set_option linter.unusedSimpArgs false
namespace Go.Proofs.Ytpffegkckejpiaa
open Go.RowKit

def ssz : Value → Nat
  | .string x => x.size
  | _ => 0

theorem ext_tail {x : ByteArray} (h : 0 < x.size) : (x.extract 1 x.size).data.toList = x.data.toList.drop 1 := by
  rw [Lib.extract_data, List.take_of_length_le (by simp)]
theorem ext_size {x : ByteArray} : (x.extract 1 x.size).size = x.size - 1 := by
  rw [Lib.size_eq, Lib.extract_data]; simp
theorem cons_of {x : ByteArray} (h : 0 < x.size) : x.data.toList = x[0] :: x.data.toList.drop 1 := by
  have := byte_drop x 0 h
  rwa [List.drop_zero] at this
theorem tail_val {x : ByteArray} (h : 0 < x.size) (h0 : (x[0].toNat : Int) = 48) : valD (x.extract 1 x.size).data.toList = valD x.data.toList := by
  have e : x[0] = 48 := byte_eq (k := 48) (by decide) h0
  rw [ext_tail h, cons_of h, e, valD_zero]
  simp
theorem tail_all {x : ByteArray} (h : 0 < x.size) (ha : x.data.toList.all isD = true) : (x.extract 1 x.size).data.toList.all isD = true := by
  rw [ext_tail h]
  rw [cons_of h, List.all_cons, Bool.and_eq_true] at ha
  exact ha.2

theorem ext_take (x : ByteArray) (k : Nat) : (x.extract 0 k).data.toList = x.data.toList.take k := by
  rw [Lib.extract_data, List.drop_zero, Nat.sub_zero]

theorem dec_end {n z : Nat} (hn : 0 < n) (hz : z < (decB n).size) {x : ByteArray} (hx : x.data.toList = (decB n).data.toList.take ((decB n).size - z)) :
    ∃ h : (decB n).size - z - 1 < x.size, (x[(decB n).size - z - 1].toNat : Int) = 48 + ((n / 10 ^ z % 10 : Nat) : Int) := by
  have hs : x.size = (decB n).size - z := by
    rw [Lib.size_eq, hx, List.length_take, ← Lib.size_eq]; omega
  refine ⟨by omega, ?_⟩
  have h1 := byte_get x ((decB n).size - z - 1) (by omega)
  rw [hx, List.getElem?_take, if_pos (by omega), dec_list, List.getElem?_map] at h1
  have hl : (decB n).size = (dl n).length := dec_sz n
  rw [List.getElem?_reverse (by omega), show (dl n).length - 1 - ((decB n).size - z - 1) = z from by omega] at h1
  have h2 : (dl n)[z]? = some (nAt (dl n) z) := by rw [nAt_get (by omega)]; exact List.getElem?_eq_getElem (by omega)
  rw [h2, dl_pos hn, nAt_car] at h1
  simp only [Option.map_some, Option.some.injEq] at h1
  rw [← h1]
  simp
  omega

set_option maxRecDepth 100000 in
set_option maxHeartbeats 400000 in
theorem tidy_any (b : Bool) (s : ByteArray) (e : Int) (w : World) (hd : s.data.toList.all isD = true) (h0 : 0 < s.size) (hs : s.size ≤ 20000) (he0 : -2000000000 ≤ e) (he1 : e ≤ 2000000000) :
    Calls Try.prog 43 #[.bool b, .string s, .int .i64 e] w fun r w' => r = .returned (numV b (valD s.data.toList) e) ∧ Below w.heap.size w w' := by
  obtain ⟨n, hN⟩ : ∃ n, valD s.data.toList = n := ⟨_, rfl⟩
  rw [hN]
  have HD : Hid (s.data.toList.all isD = true) := hd
  have HN : Hid (valD s.data.toList = n) := hN
  clear hd hN
  go_enter Try.func43, Try.ntmps43
  go_wp2
  go_loop [1] (fun v => ∃ x : ByteArray, v = .string x ∧ 0 < x.size ∧ x.size ≤ s.size ∧ Hid (x.data.toList.all isD = true) ∧ Hid (valD x.data.toList = n)) (fun v => ssz v)
  case atStart => exact ⟨s, rfl, h0, Nat.le_refl _, HD, HN⟩
  case round =>
    obtain ⟨x, rfl, hx0, hx1, HA, HV⟩ := hrel
    have hxi : (0 : Int) < x.size := by omega
    have hxj : (1 : Int) ≤ x.size := by omega
    by_cases hmore : 1 < x.size ∧ (x[0].toNat : Int) = 48
    · obtain ⟨h1, h2⟩ := hmore
      have h1' : (1 : Int) < x.size := by omega
      have HA' : Hid ((x.extract 1 x.size).data.toList.all isD = true) := tail_all hx0 HA.out
      have HV' : Hid (valD (x.extract 1 x.size).data.toList = n) := (tail_val hx0 h2).trans HV.out
      have hz : (x.extract 1 x.size).size = x.size - 1 := ext_size
      generalize hy : x.extract 1 x.size = y at HA' HV' hz ⊢
      clear HA HV
      go_wp2
      go_round
      case rel => exact ⟨_, rfl, by omega, by omega, HA', HV'⟩
      case measure => simp [ssz]; omega
    · have hx : x = decB n := by
        rw [← HV.out, ← Lib.mk_data x]
        refine lead_text HA.out (fun e => ?_) ?_
        · rw [Lib.size_eq, e] at hx0; simp at hx0
        · by_cases h1 : x.size = 1
          · left; rw [← Lib.size_eq]; exact h1
          · right
            rw [head_of hx0]
            intro e
            have e' : x[0] = 48 := by simpa using e
            exact hmore ⟨by omega, by rw [e']; rfl⟩
      have hout : (¬ (1 : Int) < x.size) ∨ ((1 : Int) < x.size ∧ ((x[0].toNat : Int) == 48) = false) := by
        by_cases h1 : 1 < x.size
        · right
          exact ⟨by omega, beq_false_of_ne fun e => hmore ⟨h1, e⟩⟩
        · left; omega
      by_cases hn : n = 0
      · have e0 : x = ⟨#[48]⟩ := by rw [hx, hn]; exact dec_zero
        subst hn
        subst e0
        clear hmore hx hout HA HV
        go_wp2
        exact bodyPost_ret (v := numV b 0 e) (by simp [results, Try.results43, go_sem, numV]) rfl ⟨rfl, (Below.refl _ w).alloc (Nat.le_refl _) _⟩
      · have hn0 : 0 < n := by omega
        have hne : (x.toList == [48]) = false := by
          rw [Lib.toList_data]
          apply beq_false_of_ne
          intro e
          exact hn ((dec_zero_iff n).1 (by rw [← hx, ← Lib.mk_data x, e]))
        have hem := nonempty_of hx0
        obtain ⟨q0, q1⟩ := tz_spec n hn0
        have hq : tz n < (decB n).size := by rw [dec_sz, dl_pos hn0]; exact tz_lt hn0
        have HX : Hid (x = decB n) := hx
        have HQ0 : Hid (∀ j, j < tz n → n / 10 ^ j % 10 = 0) := q0
        have HQ1 : Hid (n / 10 ^ tz n % 10 ≠ 0) := q1
        have hsz : (decB n).size = x.size := by rw [hx]
        rw [hsz] at hq
        clear hx q0 q1 hmore HA HV hsz
        have hT : ∀ (z m : Nat) (y : ByteArray), z ≤ tz n → Hid (x.size - (z + 1) = m) → Hid (y.data.toList = x.data.toList.take (x.size - z)) →
            y.size = m + 1 ∧ ∃ h : m < y.size, (y[m].toNat : Int) = 48 + ((n / 10 ^ z % 10 : Nat) : Int) := by
          intro z m y hz hm hy
          have hm' := hm.out
          have hs : y.size = m + 1 := by rw [Lib.size_eq y, hy.out, List.length_take, ← Lib.size_eq]; omega
          refine ⟨hs, by omega, ?_⟩
          have := HX.out
          subst this
          obtain ⟨h1, h2⟩ := dec_end hn0 (by omega) hy.out
          have e : (decB n).size - z - 1 = m := by omega
          simp only [e] at h2
          exact h2
        have HF : Hid (numV b n e = .agg #[.bool b, .string (decB (n / 10 ^ tz n)), .int .i64 (e + tz n), .int .i64 0]) := by
          show numV b n e = _
          unfold numV
          rw [if_neg hn]
        have HY : ∀ y : ByteArray, Hid (y.data.toList = x.data.toList.take (x.size - tz n)) → y = decB (n / 10 ^ tz n) := by
          intro y hy
          rw [← Lib.mk_data y, hy.out, HX.out, dec_list, dec_sz, ← List.map_take, ← Lib.mk_data (decB (n / 10 ^ tz n)), dec_list, dl_pos (quot_pos hn0), dl_pos hn0, List.take_reverse,
            show (carP 10 n).length - ((carP 10 n).length - tz n) = tz n from by have := tz_lt hn0; omega, car_drop]
        generalize tz n = T at HQ0 HQ1 hq hT HF HY
        rcases hout with h1 | ⟨h1, h2⟩
        all_goals
          go_wp2
          go_loop [1, 2] (fun v u => ∃ (z : Nat) (y : ByteArray), z ≤ T ∧ v = .string y ∧ u = .int .i64 (e + z) ∧ Hid (y.data.toList = x.data.toList.take (x.size - z))) (fun v _ => ssz v)
          case atStart => exact ⟨0, x, Nat.zero_le _, rfl, by simp, (show _ = _ by rw [Nat.sub_zero, List.take_of_length_le (by simp)])⟩
          case round =>
            obtain ⟨z, y, hz, rfl, rfl, hyy⟩ := hrel
            obtain ⟨m, hm⟩ : ∃ m, x.size - (z + 1) = m := ⟨_, rfl⟩
            have HM : Hid (x.size - (z + 1) = m) := hm
            obtain ⟨hys, hlt, e2⟩ := hT z m y hz HM hyy
            have hi : (y.size : Int) - 1 = (m : Int) := by omega
            have hj : (m : Int) < y.size := by omega
            have hj0 : (m : Int) ≤ y.size := by omega
            have hmb : (m : Int) ≤ 20000 := by omega
            clear hm
            by_cases hmo : z < T
            · have e3 : (y[m].toNat : Int) = 48 := by rw [e2, HQ0.out z hmo]; rfl
              have HN2 : Hid ((y.extract 0 m).data.toList = x.data.toList.take (x.size - (z + 1))) := by
                show _ = _
                have := HM.out
                rw [ext_take, hyy.out, List.take_take, HM.out]
                congr 1
                omega
              have hzs : Hid ((y.extract 0 m).size = m) := by
                show _ = _
                rw [Lib.size_eq, HN2.out, List.length_take, ← Lib.size_eq, HM.out]; have := HM.out; omega
              clear e2 hyy hT HY hys
              go_wp2
              go_round
              case rel => exact ⟨z + 1, _, by omega, rfl, by go_num, HN2⟩
              case measure => show (y.extract 0 m).size < y.size; rw [hzs.out]; omega
            · obtain rfl : z = T := by omega
              have e3 : ((y[m].toNat : Int) == 48) = false := beq_false_of_ne (by rw [e2]; have := HQ1.out; omega)
              have HE : Hid (y = decB (n / 10 ^ z)) := HY y hyy
              clear e2 hyy hT HY hys
              go_wp2
              rw [HF.out, ← HE.out]
              exact bodyPost_ret (v := .agg #[.bool b, .string y, .int .i64 (e + z), .int .i64 0]) (by simp [results, Try.results43, go_sem]) rfl ⟨rfl, (Below.refl _ w).alloc (Nat.le_refl _) _⟩
end Go.Proofs.Ytpffegkckejpiaa
