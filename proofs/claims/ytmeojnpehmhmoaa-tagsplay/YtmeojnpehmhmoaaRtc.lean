/- The document's own Tag, without angles. -/
import Derived.Test.YtmeojnpehmhmoaaRtg
set_option linter.unusedVariables false
set_option linter.unusedSimpArgs false
namespace Go.Proofs.Ytmeojnpehmhmoaa
open Go.RowKit Go.Shelf

set_option maxRecDepth 100000 in
set_option maxHeartbeats 1000000 in
theorem rsh_one (b o : Nat) (t : List Int) (c : Nat) (w : World) (hn : t.length ≤ 1000000) (hc : t.length ≤ c) (hm : c ≤ maxLen) (h33 : iAt t 0 = 33) (h1 : t.length = 1) (hI : Is w (some ⟨b, o, none⟩) t) :
    Calls Try.prog 42 #[.slice (some ⟨b, o, none⟩) t.length c] w fun e w' => e = .returned (tagV (shP t)) ∧ Below w.heap.size w w' := by
  have hn2 : (t.length : Int) ≤ 1000000 := by omega
  have h0' : ((t.length : Int) == 0) = false := by simp; intro e; subst e; simp at h1
  have hwl := wrE_le (t := t) (by omega)
  have hwg := wrE_ge t
  have h1' : ¬ (1 : Int) < t.length := by omega
  have hB0 : hdB t = false := by unfold hdB; exact decide_eq_false (fun h => by omega)
  have HB : Hid (hdB t = false) := hB0
  have hf1 : hdP t = 1 := by unfold hdP; rw [hB0]; rfl
  have hd2 : wrE t < t.length → iAt t (wrE t) ≠ 33 := fun h e => by unfold hdB at hB0; exact of_decide_eq_false hB0 ⟨h, e⟩
  have hd2 : Hid _ := hd2
  have hge := hdP_ge t
  have hle := hdP_le (t := t) (by omega)
  have hse := runE_le (L := t.length) (sN_bd t) hle
  have hsg := runE_ge (sN t) t.length (hdP t)
  have UR := fun i (hi : i ≤ t.length) => uri_any (some ⟨b, o, none⟩) t t.length c i w rfl (by omega) (by omega) hI
  have UR : Hid _ := UR
  have FLR : Hid (∀ (x : Int) (w : World), Calls Try.prog 69 #[.int .i64 x] w fun e w' => e = .returned (.bool (flowP x)) ∧ w' = w) := rflow_any
  have WDR : Hid (∀ (x : Int) (w : World), Calls Try.prog 45 #[.int .i64 x] w fun e w' => e = .returned (.bool (wordP x)) ∧ w' = w) := rword_any
  obtain ⟨V, hV⟩ : ∃ V, tagV (shP t) = V := ⟨_, rfl⟩
  rw [hV]
  unfold shP at hV
  obtain ⟨b', o', e, hu⟩ := hI.at (by omega)
  cases e
  have c0 := hu 0 (by omega)
  rw [Nat.add_zero, h33] at c0
  generalize hS0 : runE (sN t) t.length (hdP t) = S at *
  generalize hdP t = f at *
  have HSN : Hid (runE (sN t) t.length f = S) := hS0
  clear hS0
  have HV : Hid _ := hV
  clear hV
  generalize hA : wrE t = a at *
  have HA : Hid (runE (st wordP t) t.length 1 = a) := hA
  clear hA
  have S2 := slice_to (some ⟨b, o, none⟩) t.length c S (by omega)
  have BY := refBytes_any (some ⟨b, o, none⟩) (t.take S) c w (by simp; omega) (hI.take _) (fun x h hx => by cases h; exact hI.lt ⟨b, o, none⟩ rfl (by omega))
  rw [show (t.take S).length = S by simp; omega] at BY
  have HS : Hid (∀ (w1 : World) v, w1.ownsRow w.heap.size 5 1 v (encZ (t.take S)).length ((encZ (t.take S)).map (.int .u8)) → (convert 69 9 v).run Try.prog w1 = .ok (.string (txt (t.take S))) w1) := fun w1 v h => rtxt h
  generalize encZ (t.take S) = Z at *
  have HU : Hid (∀ (j : Nat), j < t.length → w.cell? ⟨b, o + j, none⟩ = some (.int .i64 (iAt t j))) := hu
  clear hu hI hB0
  go_enter Try.func42, Try.ntmps42
  go_wp2
  go_loop [6] (fun iv => ∃ (k : Nat), 1 ≤ k ∧ k ≤ t.length ∧ iv = .int .i64 k ∧ Hid (runE (st wordP t) t.length k = a)) (fun iv => t.length - (intOf iv).toNat)
  case atStart => exact ⟨1, by omega, by omega, rfl, HA⟩
  case round =>
    obtain ⟨k, hk2, hk, rfl, HE⟩ := hrel
    have hge3 : ¬ (k : Int) < t.length := by omega
    clear HE HA WDR
    go_wp2
    go_loop [6] (fun iv => ∃ (k : Nat), f ≤ k ∧ k ≤ t.length ∧ iv = .int .i64 k ∧ Hid (runE (sN t) t.length k = S)) (fun iv => t.length - (intOf iv).toNat)
    case atStart => exact ⟨f, by omega, by omega, by rw [hf1]; rfl, HSN⟩
    case round =>
      obtain ⟨k, hk2, hk, rfl, HE⟩ := hrel
      have hlt : ¬ k < t.length := by omega
      have hge2 : ¬ (k : Int) < t.length := by omega
      obtain rfl : k = S := by have := HE.out; rw [runE_stop (by unfold sN uN; rw [if_neg (fun h => hlt h.1), if_pos (by omega)])] at this; exact this
      clear hlt
      have hV := HV.out
      rw [if_neg (fun h => by rw [HB.out] at h; cases h.1), tagV_some] at hV
      generalize txt (t.take k) = s at HS hV
      subst hV
      clear HV
      clear HE HSN UR FLR
      go_wp2_with (first | fail | (go_at_call 68; refine BY.mono ?_; rintro e w1 ⟨v, rfl, ho, hB⟩; have HS2 := HS.out _ _ ho))
      go_ret3
      exact ⟨rfl, hB⟩
end Go.Proofs.Ytmeojnpehmhmoaa
