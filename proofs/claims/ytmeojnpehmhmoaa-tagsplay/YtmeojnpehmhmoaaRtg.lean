/- The document's own Tag. -/
import Derived.Test.YtmeojnpehmhmoaaTag
set_option linter.unusedVariables false
set_option linter.unusedSimpArgs false
namespace Go.Proofs.Ytmeojnpehmhmoaa
open Go.RowKit Go.Shelf

/-- What string(Bytes(l)) answers. -/
theorem rtxt {B : Nat} {w1 : World} {v : Value} {t : List Int} (h : w1.ownsRow B 5 1 v (encZ t).length ((encZ t).map (.int .u8))) : (convert 69 9 v).run Try.prog w1 = .ok (.string (txt t)) w1 := own_string h (encZ_byte t)

set_option maxRecDepth 100000 in
set_option maxHeartbeats 800000 in
theorem rang_any (b o : Nat) (t : List Int) (c : Nat) (w : World) (hn : t.length ≤ 1000000) (hc : t.length ≤ c) (hm : c ≤ maxLen) (h1 : 1 < t.length) (h33 : iAt t 0 = 33) (h60 : iAt t 1 = 60) (hI : Is w (some ⟨b, o, none⟩) t) :
    Calls Try.prog 42 #[.slice (some ⟨b, o, none⟩) t.length c] w fun e w' => e = .returned (tagV (angP t)) ∧ Below w.heap.size w w' := by
  have hn2 : (t.length : Int) ≤ 1000000 := by omega
  have h1' : (1 : Int) < t.length := by omega
  have h0' : ((t.length : Int) == 0) = false := by simp; intro e; subst e; simp at h1
  have hle : runE (uN t) t.length 2 ≤ t.length := runE_le (uN_bd t) h1
  have hge : 2 ≤ runE (uN t) t.length 2 := runE_ge _ _ _
  have hze : uN t (runE (uN t) t.length 2) = 0 := runE_zero (uN_bd t)
  have UR := fun i (hi : i ≤ t.length) => uri_any (some ⟨b, o, none⟩) t t.length c i w rfl (by omega) (by omega) hI
  have UR : Hid _ := UR
  have hbd : Hid (Bd (uN t) t.length) := uN_bd t
  obtain ⟨V, hV⟩ : ∃ V, tagV (angP t) = V := ⟨_, rfl⟩
  rw [hV]
  unfold angP at hV
  obtain ⟨b', o', e, hu⟩ := hI.at (by omega)
  cases e
  have c0 := hu 0 (by omega)
  have c1 := hu 1 (by omega)
  rw [Nat.add_zero, h33] at c0
  rw [h60] at c1
  generalize hA : runE (uN t) t.length 2 = a at *
  have HA : Hid (runE (uN t) t.length 2 = a) := hA
  clear hA
  have S2 := slice_mid b o t.length c 1 a (by omega) (by omega) (by omega)
  have BY := refBytes_any (some ⟨b, o + 1, none⟩) ((t.drop 1).take (a - 1)) (c - 1) w (by simp; omega) ((hI.drop 1).take _) (fun x h hx => by cases h; exact hI.lt ⟨b, o, none⟩ rfl (by omega))
  rw [show ((t.drop 1).take (a - 1)).length = a - 1 by simp; omega] at BY
  have HS : Hid (∀ (w1 : World) v, w1.ownsRow w.heap.size 5 1 v (encZ ((t.drop 1).take (a - 1))).length ((encZ ((t.drop 1).take (a - 1))).map (.int .u8)) → (convert 69 9 v).run Try.prog w1 = .ok (.string (txt ((t.drop 1).take (a - 1)))) w1) := fun w1 v h => rtxt h
  have HV : Hid _ := hV
  clear hV
  generalize encZ ((t.drop 1).take (a - 1)) = Z at *
  have HU : Hid _ := hu
  clear hu hI
  go_enter Try.func42, Try.ntmps42
  go_wp2
  go_loop [5] (fun iv => ∃ (k : Nat), 2 ≤ k ∧ k ≤ t.length ∧ iv = .int .i64 k ∧ Hid (runE (uN t) t.length k = a)) (fun iv => t.length - (intOf iv).toNat)
  case atStart => exact ⟨2, by omega, by omega, rfl, HA⟩
  case round =>
    obtain ⟨k, hk2, hk, rfl, HE⟩ := hrel
    have U1 := UR.out k hk
    by_cases hz : uN t k = 0
    · obtain rfl : k = a := by have := HE.out; rw [runE_stop hz] at this; exact this
      rw [hz] at U1
      have e0 : ((0 : Nat) : Int) = 0 := rfl
      rw [e0] at U1
      clear HE HA UR
      by_cases h2 : k = 2
      · have hV := HV.out
        rw [if_pos (.inl h2)] at hV
        subst hV
        subst h2
        have e2 : ((2 : Nat) : Int) = 2 := rfl
        rw [e2] at U1
        rw [e2]
        first | rw [tagV_none] | skip
        clear S2 BY HS
        go_wp2_with (first | (go_at_call 30; refine U1.mono ?_; rintro e w ⟨rfl, rfl⟩))
        go_ret3
        exact ⟨rfl, Below.refl _ _⟩
      · have h2' : ((k : Int) == 2) = false := by simp; omega
        by_cases h3 : k = t.length
        · have hV := HV.out
          rw [if_pos (.inr (.inl h3))] at hV
          subst hV
          have h3' : (t.length : Int) ≤ k := by omega
          clear S2 BY HS h3 h2
          go_wp2_with (first | (go_at_call 30; refine U1.mono ?_; rintro e w ⟨rfl, rfl⟩))
          go_ret3
          exact ⟨rfl, Below.refl _ _⟩
        · have h3' : ¬ (t.length : Int) ≤ k := by omega
          have h3'' : (k : Int) < t.length := by omega
          have ck := HU.out k (by omega)
          by_cases h4 : iAt t k = 62
          · have hV := HV.out
            rw [if_neg (by simp [h2, h3, h4])] at hV
            rw [tagV_some] at hV
            generalize txt ((t.drop 1).take (k - 1)) = s at HS hV
            subst hV
            rw [h4] at ck
            clear HV h4 h2 h3
            go_wp2_with (first | (go_at_call 30; refine U1.mono ?_; rintro e w ⟨rfl, rfl⟩) | (go_at_call 68; refine BY.mono ?_; rintro e w1 ⟨v, rfl, ho, hB⟩; have HS2 := HS.out _ _ ho))
            go_ret3
            exact ⟨rfl, hB⟩
          · have hV := HV.out
            rw [if_pos (.inr (.inr h4))] at hV
            subst hV
            have h4' : (iAt t k == 62) = false := by simpa using h4
            have h4'' : (iAt t k != 62) = true := by simpa using h4
            generalize iAt t k = x at ck h4' h4''
            clear S2 BY HS h4 h2 h3
            go_wp2_with (first | (go_at_call 30; refine U1.mono ?_; rintro e w ⟨rfl, rfl⟩))
            go_ret3
            exact ⟨rfl, Below.refl _ _⟩
    · have hle2 : k + uN t k ≤ t.length := by rcases hbd.out k with h | h <;> omega
      have HN : Hid (runE (uN t) t.length (k + uN t k) = a) := (runE_step hbd.out hz).trans HE.out
      generalize uN t k = z at *
      have hz' : (0 : Int) < z := by omega
      clear HE HA UR S2 BY HS
      go_wp2_with fail
      refine U1.mono ?_
      rintro e w ⟨rfl, rfl⟩
      go_wp2_with fail
      refine U1.mono ?_
      rintro e w ⟨rfl, rfl⟩
      go_wp2
      go_round
      case rel => exact ⟨k + z, by omega, by omega, by go_num, HN⟩
      case measure => simp [intOf]; omega
end Go.Proofs.Ytmeojnpehmhmoaa
