/- The iterator over the signs between single quotes, as it runs. -/
import Derived.Test.YtfblagepgflndaaSgp
set_option linter.unusedVariables false
set_option linter.unusedSimpArgs false
namespace Go.Proofs.Ytfblagepgflndaa
open Go.RowKit Go.Shelf
attribute [local go_sem] Oper.semAt_some

set_option maxRecDepth 100000 in
set_option maxHeartbeats 2000000 in
theorem signs1_in (n l Bb cap : Nat) (q : Option Addr) (t : List Int) (hn : t.length ≤ 8000000000000) (J Jx : Nat → World → Prop) (W : World)
    (c1 : W.cell? ⟨Bb, 0, none⟩ = some (.slice q t.length cap)) (hI : Is W q t) (hJ : AbN J)
    (hY : ∀ (m i : Nat) (x : Sg) (W1 : World), (sgP 0 t)[i]? = some x → J i W1 → YieldAt Fence.wide m Try.prog l (encS x) W1 fun e W' =>
      (e = .returned (.bool true) ∧ J (i + 1) W' ∧ Kq (Xs q t Bb) W1 W') ∨ (e = .returned (.bool false) ∧ Jx (i + 1) W')) (h0 : J 0 W) :
    CallsIn Fence.wide n Try.prog 26 #[.func (.yield l) #[] #[], .pointer (some ⟨Bb, 0, none⟩)] W fun e W' => (∃ v, e = .returned v) ∧ (J (sgP 0 t).length W' ∨ ∃ i, Jx i W') := by
  have HY : Hid (∀ (m i : Nat) (x : Sg) (W1 : World), (sgP 0 t)[i]? = some x → J i W1 → YieldAt Fence.wide m Try.prog l (encS x) W1 fun e W' =>
      (e = .returned (.bool true) ∧ J (i + 1) W' ∧ Kq (Xs q t Bb) W1 W') ∨ (e = .returned (.bool false) ∧ Jx (i + 1) W')) := hY
  clear hY
  refine callsIn_of_wp Try.func26 rfl trivial ?_ rfl
  simp only [Try.ntmps26, List.size_toArray, List.length_cons, List.length_nil, Nat.reduceAdd, Nat.reduceSub, Array.replicate_succ, Array.replicate_zero, List.push_toArray, List.append_toArray, List.nil_append, List.cons_append]
  gi_wp2
  gi_loopw [3] (fun iv wr => ∃ (k i : Nat), k ≤ t.length ∧ i ≤ (sgP 0 t).length ∧ iv = .int .i64 k ∧ Hid ((sgP 0 t).drop i = sgP k (t.drop k)) ∧ J i wr ∧ Kq (Xs q t Bb) W wr) (fun iv _ => t.length - (intOf iv).toNat)
  case atStart => exact ⟨0, 0, Nat.zero_le _, Nat.zero_le _, rfl, rfl, h0, Kq.refl _ _⟩
  case round =>
    obtain ⟨k, i, hk, hi, rfl, Hs, hJr, hkr⟩ := hrel
    have d1 := hkr.box.trans c1
    by_cases hlt : k < t.length
    · have hli : (k : Int) < t.length := by omega
      obtain ⟨b, o, rfl, hu⟩ := (hkr.is hI).at (by omega)
      have e0 := hu k hlt
      by_cases hq : iAt t k = 39
      · rw [hq] at e0
        by_cases h2 : k + 1 < t.length
        · have h2' : (k : Int) + 1 < t.length := by omega
          have e1 := hu (k + 1) h2
          by_cases hq2 : iAt t (k + 1) = 39
          · rw [hq2] at e1
            obtain ⟨T0, T1, T2⟩ := drop_cons (Hs.out.trans (sg_two h2 hq hq2))
            have HT : Hid (List.drop (i + 1) (sgP 0 t) = sgP (k + 2) (t.drop (k + 2))) := T1
            have H0 : Hid ((sgP 0 t)[i]? = some (k, 39, true)) := T0
            clear hu hI Hs T1 T0
            gi_wp2
            gi_quiet (fail)
            have Y := HY.out (n - 1) i (k, 39, true) (wr.drewN nq) H0.out (hJ _ _ _ hJr (grown_drewN _ _))
            simp only [encS] at Y
            obtain ⟨fn, tmps, assign, body, hy, hR⟩ := Y
            clear HY H0
            gi_wp2
            refine ⟨(fun h => by cases h), hR.mono ?_⟩
            rintro e3 W3 (⟨rfl, hJ3, hk3⟩ | ⟨rfl, hJx3⟩)
            · clear hR hy
              gi_wp2
              go_roundw
              case rel => exact ⟨k + 2, i + 1, by omega, by omega, by go_num, HT, hJ3, (hkr.trans (Kq.drewN _ _)).trans hk3⟩
              case measure => simp [intOf]; omega
            · clear hR hy
              gi_wp2
              refine bodyPost_ret (results_none rfl _ _ _) rfl ?_
              exact ⟨⟨_, rfl⟩, .inr ⟨_, hJx3⟩⟩
          · obtain ⟨T0, T1, T2⟩ := drop_cons (Hs.out.trans (sg_one h2 (fun h => hq2 h.2)))
            rw [hq] at T0
            have hq2' : (iAt t (k + 1) == 39) = false := by simpa using hq2
            generalize iAt t (k + 1) = y at e1 hq2 hq2'
            have HT : Hid (List.drop (i + 1) (sgP 0 t) = sgP (k + 1) (t.drop (k + 1))) := T1
            have H0 : Hid ((sgP 0 t)[i]? = some (k, 39, false)) := T0
            clear hu hI Hs T1 T0
            gi_wp2
            gi_quiet (fail)
            have Y := HY.out (n - 1) i (k, 39, false) (wr.drewN nq) H0.out (hJ _ _ _ hJr (grown_drewN _ _))
            simp only [encS] at Y
            obtain ⟨fn, tmps, assign, body, hy, hR⟩ := Y
            clear HY H0
            gi_wp2
            refine ⟨(fun h => by cases h), hR.mono ?_⟩
            rintro e3 W3 (⟨rfl, hJ3, hk3⟩ | ⟨rfl, hJx3⟩)
            · clear hR hy
              gi_wp2
              go_roundw
              case rel => exact ⟨k + 1, i + 1, by omega, by omega, by go_num, HT, hJ3, (hkr.trans (Kq.drewN _ _)).trans hk3⟩
              case measure => simp [intOf]; omega
            · clear hR hy
              gi_wp2
              refine bodyPost_ret (results_none rfl _ _ _) rfl ?_
              exact ⟨⟨_, rfl⟩, .inr ⟨_, hJx3⟩⟩
        · have h2' : decide ((k : Int) + 1 < t.length) = false := by simp; omega
          obtain ⟨T0, T1, T2⟩ := drop_cons (Hs.out.trans (sg_last hlt h2))
          rw [hq] at T0
          have HT : Hid (List.drop (i + 1) (sgP 0 t) = sgP (k + 1) (t.drop (k + 1))) := T1
          have H0 : Hid ((sgP 0 t)[i]? = some (k, 39, false)) := T0
          clear hu hI Hs T1 T0
          gi_wp2
          gi_quiet (fail)
          have Y := HY.out (n - 1) i (k, 39, false) (wr.drewN nq) H0.out (hJ _ _ _ hJr (grown_drewN _ _))
          simp only [encS] at Y
          obtain ⟨fn, tmps, assign, body, hy, hR⟩ := Y
          clear HY H0
          gi_wp2
          refine ⟨(fun h => by cases h), hR.mono ?_⟩
          rintro e3 W3 (⟨rfl, hJ3, hk3⟩ | ⟨rfl, hJx3⟩)
          · clear hR hy
            gi_wp2
            go_roundw
            case rel => exact ⟨k + 1, i + 1, by omega, by omega, by go_num, HT, hJ3, (hkr.trans (Kq.drewN _ _)).trans hk3⟩
            case measure => simp [intOf]; omega
          · clear hR hy
            gi_wp2
            refine bodyPost_ret (results_none rfl _ _ _) rfl ?_
            exact ⟨⟨_, rfl⟩, .inr ⟨_, hJx3⟩⟩
      · have hq' : (iAt t k == 39) = false := by simpa using hq
        obtain ⟨T0, T1, T2⟩ : (sgP 0 t)[i]? = some (k, iAt t k, false) ∧ (sgP 0 t).drop (i + 1) = sgP (k + 1) (t.drop (k + 1)) ∧ i < (sgP 0 t).length := drop_cons (Hs.out.trans (by
          by_cases h2 : k + 1 < t.length
          · exact sg_one h2 (fun h => hq h.1)
          · exact sg_last hlt h2))
        obtain ⟨x, hx⟩ : ∃ x, iAt t k = x := ⟨_, rfl⟩
        rw [hx] at e0 hq hq' T0
        clear hx
        have HT : Hid (List.drop (i + 1) (sgP 0 t) = sgP (k + 1) (t.drop (k + 1))) := T1
        have H0 : Hid ((sgP 0 t)[i]? = some (k, x, false)) := T0
        clear hu hI Hs T1 T0
        gi_wp2
        gi_quiet (fail)
        have Y := HY.out (n - 1) i (k, x, false) (wr.drewN nq) H0.out (hJ _ _ _ hJr (grown_drewN _ _))
        simp only [encS] at Y
        obtain ⟨fn, tmps, assign, body, hy, hR⟩ := Y
        clear HY H0
        gi_wp2
        refine ⟨(fun h => by cases h), hR.mono ?_⟩
        rintro e3 W3 (⟨rfl, hJ3, hk3⟩ | ⟨rfl, hJx3⟩)
        · clear hR hy
          gi_wp2
          go_roundw
          case rel => exact ⟨k + 1, i + 1, by omega, by omega, by go_num, HT, hJ3, (hkr.trans (Kq.drewN _ _)).trans hk3⟩
          case measure => simp [intOf]; omega
        · clear hR hy
          gi_wp2
          refine bodyPost_ret (results_none rfl _ _ _) rfl ?_
          exact ⟨⟨_, rfl⟩, .inr ⟨_, hJx3⟩⟩
    · obtain rfl : k = t.length := by omega
      have hT := Hs.out
      rw [sg_end (Nat.le_refl _)] at hT
      obtain rfl : i = (sgP 0 t).length := by
        have := congrArg List.length hT
        simp at this
        omega
      clear HY hJ hT
      gi_wp2
      go_end0
      exact ⟨⟨_, rfl⟩, .inl hJr⟩

theorem signs_seq (n Bb cap : Nat) (q : Option Addr) (t : List Int) (hn : t.length ≤ 8000000000000) (w : World) (c1 : w.cell? ⟨Bb, 0, none⟩ = some (.slice q t.length cap)) (hI : Is w q t) :
    SeqT n Try.prog 26 #[.pointer (some ⟨Bb, 0, none⟩)] encS (sgP 0 t) (Kq (Xs q t Bb)) w := fun l J Jx W hW _ hJ hJx hY h0 =>
  signs1_in n l Bb cap q t hn J Jx W ((hW.cell (p := ⟨Bb, 0, none⟩) (World.block_lt_of_cell? w _ c1)).trans c1) (hI.on hW) hJ hY h0
end Go.Proofs.Ytfblagepgflndaa
