/- The iterator over the URI signs of a line, as it runs. -/
import Derived.Test.YtmeojnpehmhmoaaSgp
set_option linter.unusedVariables false
set_option linter.unusedSimpArgs false
namespace Go.Proofs.Ytmeojnpehmhmoaa
open Go.RowKit Go.Shelf
attribute [local go_sem] Oper.semAt_some

set_option maxRecDepth 100000 in
set_option maxHeartbeats 2000000 in
theorem signs1_in (n l Bb cap : Nat) (q : Option Addr) (t : List Int) (hn : t.length ≤ 1099511627776) (hcap : t.length ≤ cap) (hmx : cap ≤ maxLen) (J Jx : Nat → World → Prop) (W : World)
    (c1 : W.cell? ⟨Bb, 0, none⟩ = some (.slice q t.length cap)) (hI : Is W q t)
    (hY : ∀ (m i : Nat) (x : Nat) (W1 : World), (posE (uN t) t.length 0)[i]? = some x → J i W1 → YieldAt Fence.wide m Try.prog l (encP (uN t) q cap x) W1 fun e W' =>
      (e = .returned (.bool true) ∧ J (i + 1) W' ∧ Kq (Xs q t Bb) W1 W') ∨ (e = .returned (.bool false) ∧ Jx (i + 1) W')) (h0 : J 0 W) :
    CallsIn Fence.wide n Try.prog 90 #[.func (.yield l) #[] #[], .pointer (some ⟨Bb, 0, none⟩)] W fun e W' => (∃ v, e = .returned v) ∧ (J (posE (uN t) t.length 0).length W' ∨ ∃ i, Jx i W') := by
  have HY : Hid (∀ (m i : Nat) (x : Nat) (W1 : World), (posE (uN t) t.length 0)[i]? = some x → J i W1 → YieldAt Fence.wide m Try.prog l (encP (uN t) q cap x) W1 fun e W' =>
      (e = .returned (.bool true) ∧ J (i + 1) W' ∧ Kq (Xs q t Bb) W1 W') ∨ (e = .returned (.bool false) ∧ Jx (i + 1) W')) := hY
  clear hY
  obtain ⟨T, hT⟩ : ∃ T, posE (uN t) t.length 0 = T := ⟨_, rfl⟩
  rw [hT] at HY ⊢
  have HT : Hid (posE (uN t) t.length 0 = T) := hT
  clear hT
  have hbd := uN_bd t
  refine callsIn_of_wp Try.func90 rfl trivial ?_ rfl
  simp only [Try.ntmps90, List.size_toArray, List.length_cons, List.length_nil, Nat.reduceAdd, Nat.reduceSub, Array.replicate_succ, Array.replicate_zero, List.push_toArray, List.append_toArray, List.nil_append, List.cons_append]
  gi_wp2
  gi_loopw [3] (fun rv wr => ∃ (k i : Nat) (pk : Option Addr), k ≤ t.length ∧ rv = .slice pk (t.length - k) (cap - k) ∧ Hid (k < t.length → pk = q.map (·.add k)) ∧ Hid (T.drop i = posE (uN t) t.length k) ∧ i ≤ T.length ∧ J i wr ∧ Kq (Xs q t Bb) W wr) (fun rv _ => lenV rv)
  case atStart =>
    refine ⟨0, 0, q, Nat.zero_le _, rfl, fun h => ?_, HT.out.symm, Nat.zero_le _, h0, Kq.refl _ _⟩
    obtain ⟨b, o, rfl, -⟩ := hI.at h
    rw [Option.map_some, add_plain]
    rfl
  case round =>
    obtain ⟨k, i, pk, hk, rfl, hpk, hTi, hi, hJr, hkr⟩ := hrel
    have hIr := hkr.is hI
    have hIk : Is wr pk (t.drop k) := by
      by_cases hlt : k < t.length
      · rw [hpk.out hlt]
        obtain ⟨b, o, rfl, -⟩ := hIr.at (by omega)
        rw [Option.map_some, add_plain]
        exact hIr.drop k
      · exact .inl (List.drop_eq_nil_of_le (by omega))
    have SS := fun m => (callsIn_wide (n := m)).2 (signSize_any pk (t.drop k) (t.length - k) (cap - k) wr (by simp) (by simp; omega) hIk)
    rw [uN_drop, Nat.add_zero] at SS
    by_cases hz : uN t k = 0
    · rw [hz] at SS
      have e0 : ((0 : Nat) : Int) = 0 := rfl
      rw [e0] at SS
      have hTl : i = T.length := by
        have := hTi.out
        rw [posE_stop hz] at this
        have := List.drop_eq_nil_iff.1 this
        omega
      subst hTl
      clear HY hIr hIk hpk hTi hz
      gi_wp2
      refine ⟨trivial, (fun h => by cases h), ?_⟩
      gi_at_call 91
      refine (SS _).mono ?_
      rintro e wr ⟨rfl, rfl⟩
      gi_wp2
      refine ⟨(fun g h => by cases h), ?_⟩
      gi_wp2
      refine bodyPost_ret (results_none rfl _ _ _) rfl ?_
      exact ⟨⟨_, rfl⟩, .inl hJr⟩
    · have hle : k + uN t k ≤ t.length := by rcases hbd k with h | h <;> omega
      have hlt : k < t.length := by omega
      obtain ⟨b, o, rfl, hu⟩ := hI.at (by omega)
      have hp := hpk.out hlt
      rw [Option.map_some, add_plain] at hp
      subst hp
      have hTi2 := hTi.out
      rw [posE_step hbd hz] at hTi2
      obtain ⟨hx, hT3, hil⟩ := drop_cons hTi2
      have Y := HY.out (n - 1) i k wr hx hJr
      unfold encP at Y
      rw [Option.map_some, add_plain] at Y
      have HT3 : Hid (T.drop (i + 1) = posE (uN t) t.length (k + uN t k)) := hT3
      have hnz : ((uN t k : Nat) : Int) == 0 → False := by simp; exact hz
      have hnz' : (((uN t k : Nat) : Int) == 0) = false := by simpa using hz
      obtain ⟨r, hr⟩ : ∃ r, t.length - k = r := ⟨_, rfl⟩
      obtain ⟨cp, hcp⟩ : ∃ cp, cap - k = cp := ⟨_, rfl⟩
      obtain ⟨m, hm⟩ : ∃ m, uN t k = m := ⟨_, rfl⟩
      rw [hcp, hm] at Y
      rw [hr, hcp, hm] at SS
      rw [hm] at HT3 hnz' hle hz
      rw [hr, hcp]
      have hm1 : (m : Int) ≤ cp := by omega
      have hm2 : (m : Int) ≤ r := by omega
      have hm3 : (r : Int) ≤ cp := by omega
      have hm4 : (cp : Int) ≤ 9223372036854775807 := by unfold maxLen at hmx; omega
      obtain ⟨fn, tmps, assign, body, hy, hR⟩ := Y
      clear HY hIr hIk hpk hTi hTi2 hT3 hu hI hnz hbd
      have hr' : Hid (t.length - k = r) := hr
      have hcp' : Hid (cap - k = cp) := hcp
      have hm' : Hid (uN t k = m) := hm
      clear hr hcp hm
      gi_wp2
      refine ⟨trivial, (fun h => by cases h), ?_⟩
      gi_at_call 91
      refine (SS _).mono ?_
      rintro e wr ⟨rfl, rfl⟩
      gi_wp2
      refine ⟨(fun h => by cases h), hR.mono ?_⟩
      rintro e3 W3 (⟨rfl, hJ3, hk3⟩ | ⟨rfl, hJx3⟩)
      · clear hR hy
        by_cases hcm : cp = m
        · gi_wp2
          go_roundw
          case rel =>
            refine ⟨k + m, i + 1, some ⟨b, o + k, none⟩, hle, ?_, fun h => ?_, HT3, hil, hJ3, hkr.trans hk3⟩
            · rw [← Nat.sub_sub, ← Nat.sub_sub, hr'.out, hcp'.out, show cp - m = 0 by omega]
            · have := hr'.out
              have := hcp'.out
              omega
          case measure => simp only [lenV]; omega
        · gi_wp2
          go_roundw
          case rel =>
            refine ⟨k + m, i + 1, some ⟨b, o + k + m, none⟩, hle, ?_, fun h => ?_, HT3, hil, hJ3, hkr.trans hk3⟩
            · rw [← Nat.sub_sub, ← Nat.sub_sub, hr'.out, hcp'.out]
            · rw [Option.map_some, add_plain, Nat.add_assoc]
          case measure => simp only [lenV]; omega
      · clear hR hy
        gi_wp2
        refine bodyPost_ret (results_none rfl _ _ _) rfl ?_
        exact ⟨⟨_, rfl⟩, .inr ⟨_, hJx3⟩⟩

theorem signs_seq (n Bb cap : Nat) (q : Option Addr) (t : List Int) (hn : t.length ≤ 1099511627776) (hcap : t.length ≤ cap) (hmx : cap ≤ maxLen) (w : World) (c1 : w.cell? ⟨Bb, 0, none⟩ = some (.slice q t.length cap)) (hI : Is w q t) :
    SeqT n Try.prog 90 #[.pointer (some ⟨Bb, 0, none⟩)] (encP (uN t) q cap) (posE (uN t) t.length 0) (Kq (Xs q t Bb)) w := fun l J Jx W hW _ hJ hJx hY h0 =>
  signs1_in n l Bb cap q t hn hcap hmx J Jx W ((hW.cell (p := ⟨Bb, 0, none⟩) (World.block_lt_of_cell? w _ c1)).trans c1) (hI.on hW) hY h0

set_option maxHeartbeats 1000000 in
theorem signs_in (n : Nat) (p : Option Addr) (len cap : Nat) (w : World) :
    CallsIn Fence.wide n Try.prog 81 #[.slice p len cap] w fun e w' => e = .returned (.func (.func 90) #[] #[.pointer (some ⟨w.heap.size, 0, none⟩)]) ∧ w' = w.alloc (.cells #[.slice p len cap] 57) := by
  refine callsIn_of_wp Try.func81 rfl trivial ?_ rfl
  simp only [Try.ntmps81, List.size_toArray, List.length_cons, List.length_nil, Nat.reduceAdd, Nat.reduceSub, Array.replicate_succ, Array.replicate_zero, List.push_toArray, List.append_toArray, List.nil_append, List.cons_append]
  gi_wp2
  go_ret
  exact ⟨rfl, rfl⟩
end Go.Proofs.Ytmeojnpehmhmoaa
