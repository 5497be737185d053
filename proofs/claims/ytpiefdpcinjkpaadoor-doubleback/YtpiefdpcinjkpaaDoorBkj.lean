/- signs: the iterator, as it runs. -/
import Derived.Test.YtpiefdpcinjkpaaDoorBks
set_option linter.unusedVariables false
set_option linter.unusedSimpArgs false
namespace Go.Proofs.YtpiefdpcinjkpaaDoor
open Go.RowKit Go.Shelf
attribute [local go_sem] Oper.semAt_some

set_option maxRecDepth 100000 in
set_option maxHeartbeats 1000000 in
theorem signs1_in (n l Bc n₀ : Nat) (c : Int) (h0c : 0 ≤ c) (h1c : c < 65536) (J Jx : Nat → World → Prop) (W : World) (hn₀ : n₀ ≤ W.heap.size) (h0n : 0 < n₀) (hT : Tab W) (c1 : W.cell? ⟨Bc, 0, none⟩ = some (.int .i64 c))
    (hJ : AbN J) (hJx : AbN Jx)
    (hY : ∀ (m i : Nat) (x : Int) (W1 : World), (signsP c)[i]? = some x → J i W1 → YieldAt Fence.wide m Tryd.prog l (encI x) W1 fun e W' =>
      (e = .returned (.bool true) ∧ J (i + 1) W' ∧ Kc n₀ Bc W1 W') ∨ (e = .returned (.bool false) ∧ Jx (i + 1) W')) (h0 : J 0 W) :
    CallsIn Fence.wide n Tryd.prog 33 #[.func (.yield l) #[] #[], .pointer (some ⟨Bc, 0, none⟩)] W fun e W' => (∃ v, e = .returned v) ∧ (J (signsP c).length W' ∨ ∃ i, Jx i W') := by
  have l1 := World.block_lt_of_cell? W _ c1
  have HY : Hid (∀ (m i : Nat) (x : Int) (W1 : World), (signsP c)[i]? = some x → J i W1 → YieldAt Fence.wide m Tryd.prog l (encI x) W1 fun e W' =>
      (e = .returned (.bool true) ∧ J (i + 1) W' ∧ Kc n₀ Bc W1 W') ∨ (e = .returned (.bool false) ∧ Jx (i + 1) W')) := hY
  clear hY
  have Y0 := HY.out (n - 1) 0 92 W rfl h0
  simp only [encI] at Y0
  obtain ⟨fn, tmps, assign, body, hy, hR⟩ := Y0
  refine callsIn_of_wp Tryd.func33 rfl trivial ?_ rfl
  simp only [Tryd.ntmps33, List.size_toArray, List.length_cons, List.length_nil, Nat.reduceAdd, Nat.reduceSub, Array.replicate_succ, Array.replicate_zero, List.push_toArray, List.append_toArray, List.nil_append, List.cons_append]
  gi_wp2
  refine ⟨(fun h => by cases h), hR.mono ?_⟩
  rintro e3 W3 (⟨rfl, hJ1, hk1⟩ | ⟨rfl, hJx1⟩)
  · clear hR hy
    have hT3 : Hid (Tab W3) := hT.below hk1.below h0n
    gi_wp2_with (first | (refine wpListIn_load_tab rfl _ rfl rfl hT3.out ?_))
    gi_loopw [4, 11] (fun _ iv wr => ∃ (j : Nat), j ≤ 18 ∧ iv = .int .i64 j ∧ J 1 wr ∧ Kc n₀ Bc W wr ∧ Hid (∀ i, i < j → pnt i ≠ c)) (fun _ iv _ => 18 - (intOf iv).toNat)
    case atStart => exact ⟨0, Nat.zero_le _, rfl, hJ1, hk1, fun i h => by omega⟩
    case round =>
      obtain ⟨j, hj, rfl, hJr, hkr, Hn⟩ := hrel
      have d1 := hkr.cell.trans c1
      by_cases hlt : j < 18
      · have hlt' : (j : Int) < 18 := by omega
        have IX := index_tab j hlt
        have HP : Hid (pnt j = c → shortOf c = some (sgn j)) := shortOf_at j hlt Hn.out
        have HQ : Hid (pnt j ≠ c → ∀ i, i < j + 1 → pnt i ≠ c) := fun h i hi => by
          by_cases e : i = j
          · subst e; exact h
          · exact Hn.out i (by omega)
        generalize sgn j = s at IX HP
        generalize pnt j = p at IX HP HQ
        have hg5 := grown_new wr (.cells #[.int .i64 s, .int .i64 p] 65)
        have d2 : (wr.alloc (.cells #[.int .i64 s, .int .i64 p] 65)).cell? ⟨Bc, 0, none⟩ = some (.int .i64 c) := ((grown_below hg5).cell (p := ⟨Bc, 0, none⟩) (World.block_lt_of_cell? wr _ d1)).trans d1
        have hk5 := hkr.trans (Kc.grown hg5 (Nat.le_trans hn₀ hkr.below.size) (World.block_lt_of_cell? wr _ d1))
        have hJ5 := hJ _ _ _ hJr hg5
        by_cases hpc : p = c
        · have hsh := HP.out hpc
          have hT2 : signsP c = [92, s] := by unfold signsP; rw [hsh]
          have HL : Hid ((signsP c).length = 2) := by show _ = _; rw [hT2]; rfl
          have hidx : (signsP c)[1]? = some s := by rw [hT2]; rfl
          rw [hpc] at IX d2 hJ5 hk5
          have Y := HY.out (n - 1) 1 s _ hidx hJ5
          simp only [encI] at Y
          obtain ⟨fn, tmps, assign, body, hy, hR⟩ := Y
          have hpb : (c == c) = true := by simp
          clear hsh hT2 hidx HP HQ hJr d1 hpc
          gi_wp2
          refine ⟨(fun h => by cases h), hR.mono ?_⟩
          rintro e3 W7 (⟨rfl, hJ7, hk7⟩ | ⟨rfl, hJx7⟩)
          · clear hR hy
            gi_wp2
            refine bodyPost_ret (results_none rfl _ _ _) rfl ?_
            exact ⟨⟨_, rfl⟩, .inl (by rw [HL.out]; exact hJ7)⟩
          · clear hR hy
            gi_wp2
            refine bodyPost_ret (results_none rfl _ _ _) rfl ?_
            exact ⟨⟨_, rfl⟩, .inr ⟨_, hJx7⟩⟩
        · have hpc' : (p == c) = false := by simpa using hpc
          clear HP hJr d1
          gi_wp2
          go_roundw
          case rel => exact ⟨j + 1, by omega, by go_num, hJ5, hk5, HQ.out hpc⟩
          case measure => simp [intOf]; omega
      · obtain rfl : j = 18 := by omega
        have hsh := shortOf_none Hn.out
        have CN := fun x => count_any x
        clear Hn hJ1 hk1 hj hlt
        have l2 := World.block_lt_of_cell? wr _ d1
        by_cases hb : 255 < c
        · have hT2 : signsP c = [92, 117, dg true (c / 4096 % 16), dg true (c / 256 % 16), dg true (c / 16 % 16), dg true (c % 16)] := by
            unfold signsP
            rw [hsh]
            dsimp only
            rw [if_pos hb]
            simp only [hexL, List.nil_append, List.cons_append]
            rw [show c / 16 / 16 / 16 = c / 4096 by omega, show c / 16 / 16 = c / 256 by omega]
          have HL : Hid ((signsP c).length = 6) := by show _ = _; rw [hT2]; rfl
          have hidx : (signsP c)[1]? = some 117 := by rw [hT2]; rfl
          have HI3 : Hid ((signsP c)[2]? = some (dg true (c / 4096 % 16))) := by show _ = _; rw [hT2]; rfl
          have HI2 : Hid ((signsP c)[3]? = some (dg true (c / 256 % 16))) := by show _ = _; rw [hT2]; rfl
          have HI1 : Hid ((signsP c)[4]? = some (dg true (c / 16 % 16))) := by show _ = _; rw [hT2]; rfl
          have HI0 : Hid ((signsP c)[5]? = some (dg true (c % 16))) := by show _ = _; rw [hT2]; rfl
          clear hT2 hsh
          have CN2 := CN 117
          rw [show countP 117 = 4 from rfl, show ((4 : Nat) : Int) = 4 from rfl] at CN2
          clear CN
          have Y := HY.out (n - 1) 1 117 wr hidx hJr
          simp only [encI] at Y
          obtain ⟨fn, tmps, assign, body, hy, hR⟩ := Y
          gi_wp2
          refine ⟨(fun h => by cases h), hR.mono ?_⟩
          rintro e3 W7 (⟨rfl, hJ7, hk7⟩ | ⟨rfl, hJx7⟩)
          · clear hR hy hidx
            have d3 := hk7.cell.trans d1
            have hk8 := hkr.trans hk7
            gi_wp2
            refine ⟨trivial, (fun h => by cases h), (callsIn_wide.2 (CN2 _)).mono ?_⟩
            rintro e W8 ⟨rfl, rfl⟩
            clear CN2
            gi_wp2
            gi_loopw [6] (fun iv wx => ((iv = .int .i64 (3) ∧ J 2 wx) ∨ (iv = .int .i64 (2) ∧ J 3 wx) ∨ (iv = .int .i64 (1) ∧ J 4 wx) ∨ (iv = .int .i64 (0) ∧ J 5 wx) ∨ (iv = .int .i64 (-1) ∧ J 6 wx)) ∧ Kc n₀ Bc W wx) (fun iv _ => (intOf iv + 1).toNat)
            case atStart => exact ⟨.inl ⟨rfl, hJ7⟩, hk8⟩
            case round =>
              obtain ⟨hd, hk9⟩ := hrel
              have d4 := hk9.cell.trans c1
              rcases hd with ⟨rfl, hJ9⟩ | ⟨rfl, hJ9⟩ | ⟨rfl, hJ9⟩ | ⟨rfl, hJ9⟩ | ⟨rfl, hJ9⟩
              · have hand := i64_and15 (c / 4096)
                have hx0 : 0 ≤ c / 4096 % 16 := by omega
                have hx1 : c / 4096 % 16 < 16 := by omega
                generalize c / 4096 % 16 = d at hand hx0 hx1 HI3
                have ix := fun W => idx_up d hx0 hx1 W
                obtain ⟨hg0, hg1⟩ := dg_range true d hx0 hx1
                generalize dg true d = x at ix HI3 hg0 hg1
                have Y := HY.out (n - 1) 2 x _ HI3.out hJ9
                simp only [encI] at Y
                obtain ⟨fn, tmps, assign, body, hy, hR⟩ := Y
                clear HI0 HI1 HI2
                gi_wp2
                refine ⟨(fun h => by cases h), hR.mono ?_⟩
                rintro e3 W9 (⟨rfl, hJ10, hk10⟩ | ⟨rfl, hJx10⟩)
                · clear hR hy
                  gi_wp2
                  go_roundw
                  case rel => exact ⟨.inr (.inl ⟨rfl, hJ10⟩), hk9.trans hk10⟩
                  case measure => simp [intOf]
                · clear hR hy
                  gi_wp2
                  refine bodyPost_ret (results_none rfl _ _ _) rfl ?_
                  exact ⟨⟨_, rfl⟩, .inr ⟨_, hJx10⟩⟩
              · have hand := i64_and15 (c / 256)
                have hx0 : 0 ≤ c / 256 % 16 := by omega
                have hx1 : c / 256 % 16 < 16 := by omega
                generalize c / 256 % 16 = d at hand hx0 hx1 HI2
                have ix := fun W => idx_up d hx0 hx1 W
                obtain ⟨hg0, hg1⟩ := dg_range true d hx0 hx1
                generalize dg true d = x at ix HI2 hg0 hg1
                have Y := HY.out (n - 1) 3 x _ HI2.out hJ9
                simp only [encI] at Y
                obtain ⟨fn, tmps, assign, body, hy, hR⟩ := Y
                clear HI0 HI1 HI3
                gi_wp2
                refine ⟨(fun h => by cases h), hR.mono ?_⟩
                rintro e3 W9 (⟨rfl, hJ10, hk10⟩ | ⟨rfl, hJx10⟩)
                · clear hR hy
                  gi_wp2
                  go_roundw
                  case rel => exact ⟨.inr (.inr (.inl ⟨rfl, hJ10⟩)), hk9.trans hk10⟩
                  case measure => simp [intOf]
                · clear hR hy
                  gi_wp2
                  refine bodyPost_ret (results_none rfl _ _ _) rfl ?_
                  exact ⟨⟨_, rfl⟩, .inr ⟨_, hJx10⟩⟩
              · have hand := i64_and15 (c / 16)
                have hx0 : 0 ≤ c / 16 % 16 := by omega
                have hx1 : c / 16 % 16 < 16 := by omega
                generalize c / 16 % 16 = d at hand hx0 hx1 HI1
                have ix := fun W => idx_up d hx0 hx1 W
                obtain ⟨hg0, hg1⟩ := dg_range true d hx0 hx1
                generalize dg true d = x at ix HI1 hg0 hg1
                have Y := HY.out (n - 1) 4 x _ HI1.out hJ9
                simp only [encI] at Y
                obtain ⟨fn, tmps, assign, body, hy, hR⟩ := Y
                clear HI0 HI2 HI3
                gi_wp2
                refine ⟨(fun h => by cases h), hR.mono ?_⟩
                rintro e3 W9 (⟨rfl, hJ10, hk10⟩ | ⟨rfl, hJx10⟩)
                · clear hR hy
                  gi_wp2
                  go_roundw
                  case rel => exact ⟨.inr (.inr (.inr (.inl ⟨rfl, hJ10⟩))), hk9.trans hk10⟩
                  case measure => simp [intOf]
                · clear hR hy
                  gi_wp2
                  refine bodyPost_ret (results_none rfl _ _ _) rfl ?_
                  exact ⟨⟨_, rfl⟩, .inr ⟨_, hJx10⟩⟩
              · have hand := i64_and15 (c)
                have hx0 : 0 ≤ c % 16 := by omega
                have hx1 : c % 16 < 16 := by omega
                generalize c % 16 = d at hand hx0 hx1 HI0
                have ix := fun W => idx_up d hx0 hx1 W
                obtain ⟨hg0, hg1⟩ := dg_range true d hx0 hx1
                generalize dg true d = x at ix HI0 hg0 hg1
                have Y := HY.out (n - 1) 5 x _ HI0.out hJ9
                simp only [encI] at Y
                obtain ⟨fn, tmps, assign, body, hy, hR⟩ := Y
                clear HI1 HI2 HI3
                gi_wp2
                refine ⟨(fun h => by cases h), hR.mono ?_⟩
                rintro e3 W9 (⟨rfl, hJ10, hk10⟩ | ⟨rfl, hJx10⟩)
                · clear hR hy
                  gi_wp2
                  go_roundw
                  case rel => exact ⟨.inr (.inr (.inr (.inr (⟨rfl, hJ10⟩)))), hk9.trans hk10⟩
                  case measure => simp [intOf]
                · clear hR hy
                  gi_wp2
                  refine bodyPost_ret (results_none rfl _ _ _) rfl ?_
                  exact ⟨⟨_, rfl⟩, .inr ⟨_, hJx10⟩⟩
              · gi_wp2
                go_end0
                exact ⟨⟨_, rfl⟩, .inl (by rw [HL.out]; exact hJ9)⟩
          · clear hR hy
            gi_wp2
            refine bodyPost_ret (results_none rfl _ _ _) rfl ?_
            exact ⟨⟨_, rfl⟩, .inr ⟨_, hJx7⟩⟩
        · have hT2 : signsP c = [92, 120, dg true (c / 16 % 16), dg true (c % 16)] := by
            unfold signsP
            rw [hsh]
            dsimp only
            rw [if_neg hb]
            simp only [hexL, List.nil_append, List.cons_append]
          have HL : Hid ((signsP c).length = 4) := by show _ = _; rw [hT2]; rfl
          have hidx : (signsP c)[1]? = some 120 := by rw [hT2]; rfl
          have HI1 : Hid ((signsP c)[2]? = some (dg true (c / 16 % 16))) := by show _ = _; rw [hT2]; rfl
          have HI0 : Hid ((signsP c)[3]? = some (dg true (c % 16))) := by show _ = _; rw [hT2]; rfl
          clear hT2 hsh
          have CN2 := CN 120
          rw [show countP 120 = 2 from rfl, show ((2 : Nat) : Int) = 2 from rfl] at CN2
          clear CN
          have Y := HY.out (n - 1) 1 120 wr hidx hJr
          simp only [encI] at Y
          obtain ⟨fn, tmps, assign, body, hy, hR⟩ := Y
          gi_wp2
          refine ⟨(fun h => by cases h), hR.mono ?_⟩
          rintro e3 W7 (⟨rfl, hJ7, hk7⟩ | ⟨rfl, hJx7⟩)
          · clear hR hy hidx
            have d3 := hk7.cell.trans d1
            have hk8 := hkr.trans hk7
            gi_wp2
            refine ⟨trivial, (fun h => by cases h), (callsIn_wide.2 (CN2 _)).mono ?_⟩
            rintro e W8 ⟨rfl, rfl⟩
            clear CN2
            gi_wp2
            gi_loopw [6] (fun iv wx => ((iv = .int .i64 (1) ∧ J 2 wx) ∨ (iv = .int .i64 (0) ∧ J 3 wx) ∨ (iv = .int .i64 (-1) ∧ J 4 wx)) ∧ Kc n₀ Bc W wx) (fun iv _ => (intOf iv + 1).toNat)
            case atStart => exact ⟨.inl ⟨rfl, hJ7⟩, hk8⟩
            case round =>
              obtain ⟨hd, hk9⟩ := hrel
              have d4 := hk9.cell.trans c1
              rcases hd with ⟨rfl, hJ9⟩ | ⟨rfl, hJ9⟩ | ⟨rfl, hJ9⟩
              · have hand := i64_and15 (c / 16)
                have hx0 : 0 ≤ c / 16 % 16 := by omega
                have hx1 : c / 16 % 16 < 16 := by omega
                generalize c / 16 % 16 = d at hand hx0 hx1 HI1
                have ix := fun W => idx_up d hx0 hx1 W
                obtain ⟨hg0, hg1⟩ := dg_range true d hx0 hx1
                generalize dg true d = x at ix HI1 hg0 hg1
                have Y := HY.out (n - 1) 2 x _ HI1.out hJ9
                simp only [encI] at Y
                obtain ⟨fn, tmps, assign, body, hy, hR⟩ := Y
                clear HI0
                gi_wp2
                refine ⟨(fun h => by cases h), hR.mono ?_⟩
                rintro e3 W9 (⟨rfl, hJ10, hk10⟩ | ⟨rfl, hJx10⟩)
                · clear hR hy
                  gi_wp2
                  go_roundw
                  case rel => exact ⟨.inr (.inl ⟨rfl, hJ10⟩), hk9.trans hk10⟩
                  case measure => simp [intOf]
                · clear hR hy
                  gi_wp2
                  refine bodyPost_ret (results_none rfl _ _ _) rfl ?_
                  exact ⟨⟨_, rfl⟩, .inr ⟨_, hJx10⟩⟩
              · have hand := i64_and15 (c)
                have hx0 : 0 ≤ c % 16 := by omega
                have hx1 : c % 16 < 16 := by omega
                generalize c % 16 = d at hand hx0 hx1 HI0
                have ix := fun W => idx_up d hx0 hx1 W
                obtain ⟨hg0, hg1⟩ := dg_range true d hx0 hx1
                generalize dg true d = x at ix HI0 hg0 hg1
                have Y := HY.out (n - 1) 3 x _ HI0.out hJ9
                simp only [encI] at Y
                obtain ⟨fn, tmps, assign, body, hy, hR⟩ := Y
                clear HI1
                gi_wp2
                refine ⟨(fun h => by cases h), hR.mono ?_⟩
                rintro e3 W9 (⟨rfl, hJ10, hk10⟩ | ⟨rfl, hJx10⟩)
                · clear hR hy
                  gi_wp2
                  go_roundw
                  case rel => exact ⟨.inr (.inr (⟨rfl, hJ10⟩)), hk9.trans hk10⟩
                  case measure => simp [intOf]
                · clear hR hy
                  gi_wp2
                  refine bodyPost_ret (results_none rfl _ _ _) rfl ?_
                  exact ⟨⟨_, rfl⟩, .inr ⟨_, hJx10⟩⟩
              · gi_wp2
                go_end0
                exact ⟨⟨_, rfl⟩, .inl (by rw [HL.out]; exact hJ9)⟩
          · clear hR hy
            gi_wp2
            refine bodyPost_ret (results_none rfl _ _ _) rfl ?_
            exact ⟨⟨_, rfl⟩, .inr ⟨_, hJx7⟩⟩
  · clear hR hy
    gi_wp2
    refine bodyPost_ret (results_none rfl _ _ _) rfl ?_
    exact ⟨⟨_, rfl⟩, .inr ⟨_, hJx1⟩⟩
end Go.Proofs.YtpiefdpcinjkpaaDoor
