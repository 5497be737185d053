/- The document's own Float, all ways together. -/
import Derived.Test.YtpffegkckejpiaaRFlt
set_option linter.unusedVariables false
set_option linter.unusedSimpArgs false
set_option maxRecDepth 100000
namespace Go.Proofs.Ytpffegkckejpiaa
open Go.RowKit

theorem run_first {t : ByteArray} {w r : List UInt8} (h : t.data.toList = w ++ r) (hw : w.all isD = true) (hr : ∀ c u, r = c :: u → isD c = false) (ht : t.size ≤ 100000) :
    ∃ wh : ByteArray, wh.data.toList = w ∧ ∀ W, Calls Try.prog 44 #[.string t, .int .i64 0] W fun e w' => e = .returned (.tuple #[.string wh, .int .i64 (w.length : Nat)]) ∧ w' = W := by
  obtain ⟨e1, e2⟩ := rlen_at (a := []) (w := w) (r := r) h hw hr
  refine ⟨_, e2, fun W => ?_⟩
  have := run_any t 0 W (Nat.zero_le _) ht
  rw [show rlen t 0 = w.length from e1] at this
  rw [show ((0 + w.length : Nat) : Int) = (w.length : Nat) by rw [Nat.zero_add]] at this
  exact this
theorem run_second {t : ByteArray} {a w r : List UInt8} (h : t.data.toList = a ++ (w ++ r)) (hw : w.all isD = true) (hr : ∀ c u, r = c :: u → isD c = false) (ht : t.size ≤ 100000) (x : Int) (hx : x = (a.length : Nat)) :
    ∃ pt : ByteArray, pt.data.toList = w ∧ ∀ W, Calls Try.prog 44 #[.string t, .int .i64 x] W fun e w' => e = .returned (.tuple #[.string pt, .int .i64 ((a.length + w.length : Nat) : Int)]) ∧ w' = W := by
  obtain ⟨e1, e2⟩ := rlen_at h hw hr
  refine ⟨_, e2, fun W => ?_⟩
  have hs : a.length ≤ t.size := by rw [Lib.size_eq, h]; simp
  have := run_any t a.length W hs ht
  rw [e1] at this
  rw [hx]
  exact this
theorem bytes_empty {x : ByteArray} (h : x.size = 0) : x.toList.isEmpty = true := empty_of h
theorem bytes_some {x : ByteArray} (h : ¬ x.size = 0) : x.toList.isEmpty = false := nonempty_of (by omega)

/-- What stands behind e. -/
theorem exp_calls (t : ByteArray) (i : Nat) (ht : t.size ≤ 100000) :
    ∃ u ev mi, u = restB (t.extract (i + 1) t.size) ∧ mi = negB (t.extract (i + 1) t.size) ∧ u.size ≤ 100000 ∧ ev.data.toList = u.data.toList.take (rlen u 0) ∧
      (∀ w, Calls Try.prog 41 #[.string (t.extract (i + 1) t.size)] w fun e w' => e = .returned (.tuple #[.string u, .bool mi]) ∧ Below w.heap.size w w') ∧
      (∀ w, Calls Try.prog 44 #[.string u, .int .i64 0] w fun e w' => e = .returned (.tuple #[.string ev, .int .i64 (rlen u 0 : Nat)]) ∧ w' = w) := by
  have hz : (t.extract (i + 1) t.size).size ≤ t.size := by rw [Lib.size_eq, Lib.extract_data, List.length_take, List.length_drop, ← Lib.size_eq]; omega
  have hu : (restB (t.extract (i + 1) t.size)).size ≤ 100000 := Nat.le_trans (rest_size _) (Nat.le_trans hz ht)
  refine ⟨_, (restB (t.extract (i + 1) t.size)).extract 0 (0 + rlen (restB (t.extract (i + 1) t.size)) 0), _, rfl, rfl, hu, ?_, fun w => rsigned_any _ w, fun w => ?_⟩
  · rw [Nat.zero_add, ext_take]
  · have := run_any (restB (t.extract (i + 1) t.size)) 0 w (Nat.zero_le _) hu
    rw [show ((0 + rlen (restB (t.extract (i + 1) t.size)) 0 : Nat) : Int) = (rlen (restB (t.extract (i + 1) t.size)) 0 : Nat) by rw [Nat.zero_add]] at this
    exact this

set_option maxHeartbeats 1000000 in
theorem rFloat_t (s t : ByteArray) (ng : Bool) (w : World) (S : ∀ w, Calls Try.prog 41 #[.string s] w fun e w' => e = .returned (.tuple #[.string t, .bool ng]) ∧ Below w.heap.size w w') (ht : t.size ≤ 100000)
    (i1 : (t.toList == [46, 105, 110, 102]) = false) (i2 : (t.toList == [46, 73, 110, 102]) = false) (i3 : (t.toList == [46, 73, 78, 70]) = false) (n1 : (s.toList == [46, 110, 97, 110]) = false) (n2 : (s.toList == [46, 78, 97, 78]) = false) (n3 : (s.toList == [46, 78, 65, 78]) = false) :
    Calls Try.prog 27 #[.string s] w fun e w' => e = .returned (fltV ng (fltK t (kT t))) ∧ Below w.heap.size w w' := by
  have hl := tk_dk t.data.toList
  have hw := tk_all t.data.toList
  have hr : ∀ c u, dk t.data.toList = c :: u → isD c = false := fun c u h => dk_head h
  obtain ⟨wh, hwh, R1⟩ := run_first hl hw hr ht
  generalize tk t.data.toList = W at *
  have hws : wh.size = W.length := by rw [Lib.size_eq, hwh]
  have hWt : W.length ≤ t.size := by rw [Lib.size_eq, hl]; simp
  cases hR : dk t.data.toList with
  | nil =>
    rw [hR, List.append_nil] at hl
    have hk : W.length = t.size := by rw [Lib.size_eq, hl]
    have hf : fltK t (kT t) = numF W [] 0 := by rw [flt_w (by rw [hl]; exact hw), hl]
    rw [hf]
    by_cases hb : wh.size = 0
    · rw [numF_len 0 (.inl (by rw [List.length_nil]; omega))]
      exact rF_A1_b s t ng w S ht i1 i2 i3 n1 n2 n3 wh W.length R1 (by omega) (by omega) (bytes_empty hb) (by omega)
    · by_cases hL : 5000 < wh.size
      · rw [numF_len 0 (.inr (by simp; omega))]
        exact rF_A1_l1 s t ng w S ht i1 i2 i3 n1 n2 n3 wh W.length R1 (by omega) (by omega) (bytes_some hb) (by omega) (by omega)
      · have ea : (wh ++ (⟨#[]⟩ : ByteArray)).data.toList = W := by rw [app_list, hwh]; simp
        have ez : (wh ++ (⟨#[]⟩ : ByteArray)).size = W.length := by rw [Lib.size_eq, ea]
        have R := rF_A1_o1_end s t ng w S ht i1 i2 i3 n1 n2 n3 wh W.length R1 (by omega) (by omega) (bytes_some hb) (by omega) (by omega) (by rw [ea]; exact hw) (by omega) (by omega)
        rw [fltV_num (n := valD (wh ++ (⟨#[]⟩ : ByteArray)).data.toList) (e := 0) (okL_yes hw rfl (by simp; omega) (by simp; omega)) (by rw [ea, List.append_nil]) (by simp)]
        exact R
  | cons c u =>
    have hcD := hr c u hR
    rw [hR] at hl
    obtain ⟨hks, hkc⟩ := byte_mid hl
    by_cases h46 : c = 46
    · subst h46
      have hl2 := tk_dk u
      have hp := tk_all u
      have hq : ∀ c v, dk u = c :: v → isD c = false := fun c v h => dk_head h
      have hcut : t.data.toList = (W ++ [46]) ++ (tk u ++ dk u) := by rw [hl, ← hl2]; simp
      obtain ⟨pt, hpt, R2⟩ := run_second hcut hp hq ht ((W.length : Int) + 1) (by simp)
      generalize tk u = p at *
      have hps : pt.size = p.length := by rw [Lib.size_eq, hpt]
      have hlen : (W ++ [46]).length + p.length = W.length + 1 + p.length := by simp
      rw [hlen] at R2
      have hit : W.length + 1 + p.length ≤ t.size := by rw [Lib.size_eq, hcut]; simp; omega
      have hkc' : ((t[W.length]'(by omega)).toNat : Int) = 46 := by rw [hkc]; rfl
      have hl3 : t.data.toList = W ++ 46 :: (p ++ dk u) := by rw [hl, ← hl2]
      by_cases hbad : (wh.size = 0 ∧ pt.size = 0) ∨ 5000 < wh.size + pt.size
      · have hnone : fltK t (kT t) = none := by
          cases hQ : dk u with
          | nil => rw [hQ, List.append_nil] at hl3; rw [flt_wp hl3 hw hp]; exact numF_len 0 (by omega)
          | cons d v =>
            rw [hQ] at hl3
            by_cases hE : isE d = true
            · rw [flt_full hl3 hw hp hE]
              exact bind_none _ _ fun x => numF_len x (by omega)
            · exact flt_bad2 hl3 hw hp (hq d v hQ) (by simpa using hE)
        rw [hnone]
        by_cases hb1 : wh.size = 0
        · by_cases hb2 : pt.size = 0
          · exact rF_B_b s t ng w S ht i1 i2 i3 n1 n2 n3 wh W.length R1 (by omega) hkc' pt _ R2 (bytes_empty hb1) (bytes_empty hb2) (by omega) (by omega)
          · exact rF_B_l2 s t ng w S ht i1 i2 i3 n1 n2 n3 wh W.length R1 (by omega) hkc' pt _ R2 (bytes_empty hb1) (bytes_some hb2) (by omega) (by omega) (by omega)
        · exact rF_B_l1 s t ng w S ht i1 i2 i3 n1 n2 n3 wh W.length R1 (by omega) hkc' pt _ R2 (bytes_some hb1) (by omega) (by omega) (by omega)
      · have hok := okL_yes (w := W) (p := p) hw hp (by omega) (by omega)
        have ea : (wh ++ pt).data.toList = W ++ p := by rw [app_list, hwh, hpt]
        have ez : (wh ++ pt).size = W.length + p.length := by rw [Lib.size_eq, ea, List.length_append]
        have hda : (wh ++ pt).data.toList.all isD = true := by rw [ea, List.all_append, hw, hp]; rfl
        cases hQ : dk u with
        | nil =>
          rw [hQ, List.append_nil] at hl3
          have hie : W.length + 1 + p.length = t.size := by rw [Lib.size_eq, hl3]; simp; omega
          rw [flt_wp hl3 hw hp, fltV_num (n := valD (wh ++ pt).data.toList) (e := -(pt.size : Int)) hok (by rw [ea]) (by omega)]
          by_cases hb1 : wh.size = 0
          · exact rF_B_o2_end s t ng w S ht i1 i2 i3 n1 n2 n3 wh W.length R1 (by omega) hkc' pt _ R2 (bytes_empty hb1) (bytes_some (by omega)) (by omega) (by omega) (by omega) (by omega) (by omega) hda (by omega) (by omega) (by omega)
          · exact rF_B_o1_end s t ng w S ht i1 i2 i3 n1 n2 n3 wh W.length R1 (by omega) hkc' pt _ R2 (bytes_some hb1) (by omega) (by omega) (by omega) (by omega) (by omega) hda (by omega) (by omega) (by omega)
        | cons d v =>
          rw [hQ] at hl3
          have hdD := hq d v hQ
          have hl4 : t.data.toList = (W ++ 46 :: p) ++ d :: v := by rw [hl3]; simp
          have hlw : (W ++ 46 :: p).length = W.length + 1 + p.length := by simp; omega
          obtain ⟨his, hid⟩ := byte_mid hl4
          simp only [hlw] at his hid
          by_cases hE : isE d = true
          · rw [flt_full hl3 hw hp hE]
            have hext : t.extract (W.length + 1 + p.length + 1) t.size = ⟨v.toArray⟩ := by rw [← hlw]; exact ext_tl hl4
            have hdE : d = 101 ∨ d = 69 := by unfold isE eE at hE; simpa using hE
            have gE : ((t[W.length + 1 + p.length]'(by omega)).toNat : Int) = 101 ∨ (((t[W.length + 1 + p.length]'(by omega)).toNat : Int) ≠ 101 ∧ ((t[W.length + 1 + p.length]'(by omega)).toNat : Int) = 69) := by
              rw [hid]
              rcases hdE with rfl | rfl
              · exact .inl rfl
              · exact .inr ⟨by decide, rfl⟩
            obtain ⟨uu, ev, mi, hu, hmi, hus, hev, S2, R3⟩ := exp_calls t (W.length + 1 + p.length) ht
            rw [hext] at hu hmi
            have hec := exp_cases ⟨v.toArray⟩
            rw [← hu, ← hmi] at hec
            rcases hec with ⟨hn, hcs⟩ | ⟨c1, c2, c3, c4, c5⟩
            · rw [hn]
              rcases hcs with q | ⟨q, q2⟩ | ⟨q, q2, q3⟩
              · by_cases hb1 : wh.size = 0
                · exact rF_B_o2_none1 s t ng w S ht i1 i2 i3 n1 n2 n3 wh W.length R1 (by omega) hkc' pt _ R2 (bytes_empty hb1) (bytes_some (by omega)) (by omega) (by omega) (by omega) (by omega) gE uu ev _ mi (by omega) S2 R3 (by omega)
                · exact rF_B_o1_none1 s t ng w S ht i1 i2 i3 n1 n2 n3 wh W.length R1 (by omega) hkc' pt _ R2 (bytes_some hb1) (by omega) (by omega) (by omega) (by omega) gE uu ev _ mi (by omega) S2 R3 (by omega)
              · by_cases hb1 : wh.size = 0
                · exact rF_B_o2_none2 s t ng w S ht i1 i2 i3 n1 n2 n3 wh W.length R1 (by omega) hkc' pt _ R2 (bytes_empty hb1) (bytes_some (by omega)) (by omega) (by omega) (by omega) (by omega) gE uu ev _ mi (by omega) S2 R3 (by omega) (by omega)
                · exact rF_B_o1_none2 s t ng w S ht i1 i2 i3 n1 n2 n3 wh W.length R1 (by omega) hkc' pt _ R2 (bytes_some hb1) (by omega) (by omega) (by omega) (by omega) gE uu ev _ mi (by omega) S2 R3 (by omega) (by omega)
              · by_cases hb1 : wh.size = 0
                · exact rF_B_o2_none3 s t ng w S ht i1 i2 i3 n1 n2 n3 wh W.length R1 (by omega) hkc' pt _ R2 (bytes_empty hb1) (bytes_some (by omega)) (by omega) (by omega) (by omega) (by omega) gE uu ev _ mi (by omega) S2 R3 (by omega) (by omega) (by omega)
                · exact rF_B_o1_none3 s t ng w S ht i1 i2 i3 n1 n2 n3 wh W.length R1 (by omega) hkc' pt _ R2 (bytes_some hb1) (by omega) (by omega) (by omega) (by omega) gE uu ev _ mi (by omega) S2 R3 (by omega) (by omega) (by omega)
            · rw [c5]
              have hev2 : ev.data.toList = uu.data.toList := by rw [hev, c1, List.take_of_length_le (by simp)]
              cases mi
              · show Calls Try.prog 27 #[.string s] w fun e w' => e = .returned (fltV ng (numF W p (valD uu.data.toList : Int))) ∧ Below w.heap.size w w'
                rw [fltV_num (n := valD (wh ++ pt).data.toList) (e := (valD uu.data.toList : Int) - (pt.size : Int)) hok (by rw [ea]) (by rw [hps])]
                by_cases hb1 : wh.size = 0
                · exact rF_B_o2_some0 s t ng w S ht i1 i2 i3 n1 n2 n3 wh W.length R1 (by omega) hkc' pt _ R2 (bytes_empty hb1) (bytes_some (by omega)) (by omega) (by omega) (by omega) (by omega) gE uu ev _ false (by omega) S2 R3 (by omega) (by omega) (by omega) hev2 c4 rfl hda (by omega) (by omega) (by omega)
                · exact rF_B_o1_some0 s t ng w S ht i1 i2 i3 n1 n2 n3 wh W.length R1 (by omega) hkc' pt _ R2 (bytes_some hb1) (by omega) (by omega) (by omega) (by omega) gE uu ev _ false (by omega) S2 R3 (by omega) (by omega) (by omega) hev2 c4 rfl hda (by omega) (by omega) (by omega)
              · show Calls Try.prog 27 #[.string s] w fun e w' => e = .returned (fltV ng (numF W p (-(valD uu.data.toList : Int)))) ∧ Below w.heap.size w w'
                rw [fltV_num (n := valD (wh ++ pt).data.toList) (e := -(valD uu.data.toList : Int) - (pt.size : Int)) hok (by rw [ea]) (by rw [hps])]
                by_cases hb1 : wh.size = 0
                · exact rF_B_o2_some1 s t ng w S ht i1 i2 i3 n1 n2 n3 wh W.length R1 (by omega) hkc' pt _ R2 (bytes_empty hb1) (bytes_some (by omega)) (by omega) (by omega) (by omega) (by omega) gE uu ev _ true (by omega) S2 R3 (by omega) (by omega) (by omega) hev2 c4 rfl hda (by omega) (by omega) (by omega)
                · exact rF_B_o1_some1 s t ng w S ht i1 i2 i3 n1 n2 n3 wh W.length R1 (by omega) hkc' pt _ R2 (bytes_some hb1) (by omega) (by omega) (by omega) (by omega) gE uu ev _ true (by omega) S2 R3 (by omega) (by omega) (by omega) hev2 c4 rfl hda (by omega) (by omega) (by omega)
          · have hE' : isE d = false := by simpa using hE
            rw [flt_bad2 hl3 hw hp hdD hE']
            have g1 : ((t[W.length + 1 + p.length]'(by omega)).toNat : Int) ≠ 101 := by rw [hid]; intro e; rw [byte_eq (k := 101) (by decide) e] at hE'; revert hE'; decide
            have g2 : ((t[W.length + 1 + p.length]'(by omega)).toNat : Int) ≠ 69 := by rw [hid]; intro e; rw [byte_eq (k := 69) (by decide) e] at hE'; revert hE'; decide
            by_cases hb1 : wh.size = 0
            · exact rF_B_o2_other s t ng w S ht i1 i2 i3 n1 n2 n3 wh W.length R1 (by omega) hkc' pt _ R2 (bytes_empty hb1) (bytes_some (by omega)) (by omega) (by omega) (by omega) (by omega) g1 g2
            · exact rF_B_o1_other s t ng w S ht i1 i2 i3 n1 n2 n3 wh W.length R1 (by omega) hkc' pt _ R2 (bytes_some hb1) (by omega) (by omega) (by omega) (by omega) g1 g2
    · have hkc' : ((t[W.length]'(by omega)).toNat : Int) ≠ 46 := by rw [hkc]; intro e; exact h46 (byte_eq (k := 46) (by decide) e)
      by_cases hbad : wh.size = 0 ∨ 5000 < wh.size
      · have hnone : fltK t (kT t) = none := by
          by_cases hE : isE c = true
          · rw [flt_we hl hw hE]
            exact bind_none _ _ fun x => numF_len x (by rw [List.length_nil]; omega)
          · exact flt_bad1 hl hw hcD (by simpa using hE) h46
        rw [hnone]
        by_cases hb : wh.size = 0
        · exact rF_A2_b s t ng w S ht i1 i2 i3 n1 n2 n3 wh W.length R1 (by omega) hkc' (bytes_empty hb) (by omega)
        · exact rF_A2_l1 s t ng w S ht i1 i2 i3 n1 n2 n3 wh W.length R1 (by omega) hkc' (bytes_some hb) (by omega) (by omega)
      · have hok := okL_yes (w := W) (p := []) hw rfl (by simp; omega) (by simp; omega)
        have ea : (wh ++ (⟨#[]⟩ : ByteArray)).data.toList = W := by rw [app_list, hwh]; simp
        have ez : (wh ++ (⟨#[]⟩ : ByteArray)).size = W.length := by rw [Lib.size_eq, ea]
        have hda : (wh ++ (⟨#[]⟩ : ByteArray)).data.toList.all isD = true := by rw [ea]; exact hw
        by_cases hE : isE c = true
        · rw [flt_we hl hw hE]
          have hext : t.extract (W.length + 1) t.size = ⟨u.toArray⟩ := ext_tl hl
          have hdE : c = 101 ∨ c = 69 := by unfold isE eE at hE; simpa using hE
          have gE : ((t[W.length]'(by omega)).toNat : Int) = 101 ∨ (((t[W.length]'(by omega)).toNat : Int) ≠ 101 ∧ ((t[W.length]'(by omega)).toNat : Int) = 69) := by
            rw [hkc]
            rcases hdE with rfl | rfl
            · exact .inl rfl
            · exact .inr ⟨by decide, rfl⟩
          obtain ⟨uu, ev, mi, hu, hmi, hus, hev, S2, R3⟩ := exp_calls t W.length ht
          rw [hext] at hu hmi
          have hec := exp_cases ⟨u.toArray⟩
          rw [← hu, ← hmi] at hec
          rcases hec with ⟨hn, hcs⟩ | ⟨c1, c2, c3, c4, c5⟩
          · rw [hn]
            rcases hcs with q | ⟨q, q2⟩ | ⟨q, q2, q3⟩
            · exact rF_A2_o1_none1 s t ng w S ht i1 i2 i3 n1 n2 n3 wh W.length R1 (by omega) hkc' (bytes_some (by omega)) (by omega) (by omega) gE uu ev _ mi (by omega) S2 R3 (by omega)
            · exact rF_A2_o1_none2 s t ng w S ht i1 i2 i3 n1 n2 n3 wh W.length R1 (by omega) hkc' (bytes_some (by omega)) (by omega) (by omega) gE uu ev _ mi (by omega) S2 R3 (by omega) (by omega)
            · exact rF_A2_o1_none3 s t ng w S ht i1 i2 i3 n1 n2 n3 wh W.length R1 (by omega) hkc' (bytes_some (by omega)) (by omega) (by omega) gE uu ev _ mi (by omega) S2 R3 (by omega) (by omega) (by omega)
          · rw [c5]
            have hev2 : ev.data.toList = uu.data.toList := by rw [hev, c1, List.take_of_length_le (by simp)]
            cases mi
            · show Calls Try.prog 27 #[.string s] w fun e w' => e = .returned (fltV ng (numF W [] (valD uu.data.toList : Int))) ∧ Below w.heap.size w w'
              rw [fltV_num (n := valD (wh ++ (⟨#[]⟩ : ByteArray)).data.toList) (e := (valD uu.data.toList : Int)) hok (by rw [ea, List.append_nil]) (by simp)]
              exact rF_A2_o1_some0 s t ng w S ht i1 i2 i3 n1 n2 n3 wh W.length R1 (by omega) hkc' (bytes_some (by omega)) (by omega) (by omega) gE uu ev _ false (by omega) S2 R3 (by omega) (by omega) (by omega) hev2 c4 rfl hda (by omega) (by omega)
            · show Calls Try.prog 27 #[.string s] w fun e w' => e = .returned (fltV ng (numF W [] (-(valD uu.data.toList : Int)))) ∧ Below w.heap.size w w'
              rw [fltV_num (n := valD (wh ++ (⟨#[]⟩ : ByteArray)).data.toList) (e := -(valD uu.data.toList : Int)) hok (by rw [ea, List.append_nil]) (by simp)]
              exact rF_A2_o1_some1 s t ng w S ht i1 i2 i3 n1 n2 n3 wh W.length R1 (by omega) hkc' (bytes_some (by omega)) (by omega) (by omega) gE uu ev _ true (by omega) S2 R3 (by omega) (by omega) (by omega) hev2 c4 rfl hda (by omega) (by omega)
        · have hE' : isE c = false := by simpa using hE
          rw [flt_bad1 hl hw hcD hE' h46]
          have g1 : ((t[W.length]'(by omega)).toNat : Int) ≠ 101 := by rw [hkc]; intro e; rw [byte_eq (k := 101) (by decide) e] at hE'; revert hE'; decide
          have g2 : ((t[W.length]'(by omega)).toNat : Int) ≠ 69 := by rw [hkc]; intro e; rw [byte_eq (k := 69) (by decide) e] at hE'; revert hE'; decide
          exact rF_A2_o1_other s t ng w S ht i1 i2 i3 n1 n2 n3 wh W.length R1 (by omega) hkc' (bytes_some (by omega)) (by omega) (by omega) g1 g2
end Go.Proofs.Ytpffegkckejpiaa
