/- UtfWide's walk, four = true, great = false. -/
import Derived.Test.YtdkodepeglpimaaDoorWideB
set_option linter.unusedVariables false
set_option linter.unusedSimpArgs false
namespace Go.Proofs.YtdkodepeglpimaaDoor
open Go.RowKit Go.Shelf

set_option maxRecDepth 100000 in
set_option maxHeartbeats 1000000 in
theorem wide_tf (p : Option Addr) (l : List Int) (cap : Nat) (w : World) (hn : (l.length : Int) ≤ 300) (h : Is w p l) (hpa : ∀ a, p = some a → 0 < l.length → a.block < w.heap.size) (hcap : cap ≤ maxLen) (hlc : l.length ≤ cap) (hT : Lib.Utf8Tabs 0 1 w) (h1 : 1 < w.heap.size) :
    Calls Tryd.prog 5 #[.slice p l.length cap, .bool true, .bool false] w fun e w' => e = .returned (.bool true) ∧ Below w.heap.size w w' := by
  have A := alive_any w hT h1
  obtain ⟨i0, hi, hz0, hz1, hz2⟩ := info_parts Tryd.info3
  obtain ⟨j0, hj, jz0, jz1, jz2⟩ := info_parts Tryd.info5b
  go_enter Tryd.func5, Tryd.ntmps5
  go_upto_region 5 with (go_at_call 8; refine A.mono ?_; rintro e w1 ⟨rfl, hb⟩)
  clear A
  have hs1 := hb.size
  have hIs := is_below' h hpa hb
  go_cut [9] from 28 to 30 (fun t wx => ∃ G c, t = .slice (some ⟨G, 0, none⟩) (l.length + 1) c ∧ Held wx G (65279 :: l) ∧ Below w.heap.size w wx)
  case first =>
    have hlit := World.ownsRow_lit (base := w1.heap.size) (e := 3) (size := 1) w1 #[.int .i64 65279] 1 (Nat.le_refl _) (by unfold maxLen; omega) rfl
    rcases p with _ | ad
    · obtain rfl : l = [] := by rcases hIs with h | ⟨b, o, e, -⟩; exact h; cases e
      clear hIs h hpa hlit
      go_wp2
      go_meet
      case rel => exact ⟨w1.heap.size, 1, rfl, Held.new w1 [65279], hb.alloc hs1 _⟩
    · have hap : ∀ (o : Obj) (j : Nat) (u : Value), (l.map (Value.int .i64))[j]? = some u → (w1.alloc o).cell? (ad.add j) = some u := fun o j u hj => by
        rcases hIs with rfl | ⟨b, off, e, hc⟩
        · simp at hj
        · cases e
          have hjl : j < l.length := by have := (List.getElem?_eq_some_iff.1 hj).1; simpa using this
          have h0 := hpa ⟨b, off, none⟩ rfl (by omega)
          rw [add_plain]
          refine (((Below.refl _ w1).alloc (Nat.le_refl _) o).cell (p := ⟨b, off + j, none⟩) (by show b < _; have h0' : b < w.heap.size := h0; omega)).trans ((hc j hjl).trans ?_)
          simp [hjl] at hj
          simp [hjl, hj]
      have hnews : ∀ u, u ∈ l.map (Value.int .i64) → u.oneCell' = true := by intro u hu; obtain ⟨z, -, rfl⟩ := List.mem_map.1 hu; rfl
      clear hIs h hpa
      go_wp2_with (at_builtin; refine wpList_append_own _ rfl _ _ 24 rfl w1.heap.size 3 i0 (.int .i64 0) 1 8 Tryd.underlying24 hi hz0 hz1 hz2 rfl (by decide) _ 1 [.int .i64 65279] rfl hlit ad l.length cap (l.map (.int .i64)) rfl (by simp) (hap _) hnews (by unfold maxLen; omega) (by omega) (by simp) ?_; intro v3 w4 ho3 hg3 _)
      have hg4 : (w1.alloc (.cells #[.int .i64 65279] 3)).grownBy w4 (some w1.heap.size) := hg3
      have hB4 : Below w.heap.size w w4 := (hb.alloc hs1 _).grown hg4 (by simp; omega) (fun k e => by cases e; exact hs1)
      obtain ⟨g, cg, rfl⟩ : ∃ g cg, v3 = .slice (some ⟨g, 0, none⟩) (l.length + 1) cg := by
        obtain ⟨-, ⟨-, e⟩ | ⟨g, cg, cur, e, -⟩⟩ := ho3
        · omega
        · exact ⟨g, cg, by rw [e, Nat.add_comm]⟩
      have hH : Held w4 g (65279 :: l) := by
        rw [Nat.add_comm] at ho3
        exact (Held.of_row (A := 65279 :: l) ho3).1
      go_meet
      case rel => exact ⟨g, cg, rfl, hH, hB4⟩
  case rest =>
    obtain ⟨G, c9, rfl, hG, hB⟩ := hcut
    have hA1 : (65279 :: l).length = l.length + 1 := rfl
    obtain ⟨AA, hAA⟩ : ∃ AA, 65279 :: l = AA := ⟨_, rfl⟩
    rw [hAA] at hG hA1
    have HAA : Hid (65279 :: l = AA) := hAA
    have hAl : (AA.length : Int) ≤ 301 := by omega
    rw [← hA1]
    have HA1 : Hid (AA.length = l.length + 1) := hA1
    have HI : Hid (Is w p l) := h
    have HT : Hid (Lib.Utf8Tabs 0 1 w) := hT
    clear hT
    clear hAA hA1 hIs h
    go_wp2_with fail
    go_loopw [8, 10] (fun v i wr => ∃ k : Nat, k ≤ AA.length ∧ i = .int .i64 k ∧ Hid (∀ j, j < k → badW (iAt AA j) j = false) ∧ wr.ownsRow w.heap.size 5 1 v ((AA.take k).flatMap (encW true false)).length (((AA.take k).flatMap (encW true false)).map (.int .u8)) ∧ Held wr G AA ∧ Below w.heap.size w wr) (fun _ i _ => AA.length - (intOf i).toNat)
    case atStart => exact ⟨0, Nat.zero_le _, rfl, (fun j hj => by omega), World.ownsRow_nil _ _ _ _, hG, hB⟩
    case round =>
      clear hG hB
      obtain ⟨k, hk, rfl, HG, hrow, hH, hBr⟩ := hrel
      have hBs := hBr.size
      by_cases hlt : k < AA.length
      · have q0 := hH.cell k hlt
        obtain ⟨c, hc⟩ : ∃ c, iAt AA k = c := ⟨_, rfl⟩
        have Hc : Hid (iAt AA k = c) := hc
        rw [hc] at q0
        clear hc
        go_upto_region 10 with fail
        go_cut [62] from 41 to 62 (fun t wx => t = .bool (badW c k) ∧ wx = wr)
        case first =>
          clear hrow hH hBr
          by_cases c0 : c < 0
          · go_wp2
            go_meet
            case rel => exact ⟨congrArg Value.bool (bad_not (okP_neg c c0)).symm, rfl⟩
          by_cases c1 : 1114111 < c
          · go_wp2
            go_meet
            case rel => exact ⟨congrArg Value.bool (bad_not (okP_big c c1)).symm, rfl⟩
          by_cases c2 : c < 55296
          · by_cases c4 : c = 0
            · have t4 : (c == 0) = true := by simpa using c4
              by_cases k1 : k = 1
              · have t1 : ((k : Int) == 1) = true := by simp; omega
                have HB : Hid (badW c k = true) := bad_zero c4 k1
                clear c4 k1
                go_wp2
                go_meet
                case rel => exact ⟨congrArg Value.bool HB.out.symm, rfl⟩
              · have t1 : ((k : Int) == 1) = false := by simp; omega
                have HB : Hid (badW c k = false) := bad_fine (okP_lo c (by omega) c2) (.inr k1)
                clear c4 k1
                go_wp2
                go_meet
                case rel => exact ⟨congrArg Value.bool HB.out.symm, rfl⟩
            · have t4 : (c == 0) = false := by simpa using c4
              have HB : Hid (badW c k = false) := bad_fine (okP_lo c (by omega) c2) (.inl c4)
              clear c4
              go_wp2
              go_meet
              case rel => exact ⟨congrArg Value.bool HB.out.symm, rfl⟩
          by_cases c3 : 57343 < c
          · have t4 : (c == 0) = false := by simp; omega
            have HB : Hid (badW c k = false) := bad_fine (okP_hi c c3 (by omega)) (.inl (by omega))
            go_wp2
            go_meet
            case rel => exact ⟨congrArg Value.bool (by have := HB.out; rw [this]; simp; omega), rfl⟩
          · have HB : Hid (badW c k = true) := bad_not (okP_mid c (by omega) (by omega))
            go_wp2
            go_meet
            case rel => exact ⟨congrArg Value.bool HB.out.symm, rfl⟩
        case rest =>
          obtain ⟨rfl, rfl⟩ := hcut
          cases hbad : badW c k
          · have hcr : 0 ≤ c ∧ c ≤ 1114111 := by have := okP_range (bad_out hbad).1; omega
            obtain ⟨cr0, cr1⟩ := hcr
            have HBD : Hid (badW c k = false) := hbad
            clear hbad
            have HX : Hid ((AA.take (k + 1)).flatMap (encW true false) = (AA.take k).flatMap (encW true false) ++ encW true false c) := by
              have := take_step (encW true false) AA k hlt
              rw [Hc.out] at this
              exact this
            have hxl := encsW_len true false (AA.take k)
            rw [List.length_take] at hxl
            generalize (AA.take k).flatMap (encW true false) = XS at hrow HX hxl
            have hxl' : XS.length ≤ 1204 := by omega
            clear hxl
            have ENC : encW true false c = [c % 256, c / 256 % 256, c / 65536 % 256, c / 16777216 % 256] := rfl
            have S0 := RW.start (hrow.alloc (.cells #[.int .i64 c] 3)) (hH.alloc _) (Held.new wc [c]) (hBr.alloc hBs _)
            clear hrow hH
            go_wp2
            go_loopw [8, 14] (fun v t wx => (t = .int .i64 0 ∧ RW w G wc.heap.size AA [c] XS [] v wx) ∨ (t = .int .i64 1 ∧ RW w G wc.heap.size AA [c] XS [c % 256, c / 256 % 256, c / 65536 % 256, c / 16777216 % 256] v wx)) (fun _ t _ => 1 - (intOf t).toNat)
            case atStart => exact .inl (⟨rfl, S0⟩)
            case round =>
              clear S0
              rcases hrel with ⟨rfl, hR⟩ | ⟨rfl, hR⟩
              · go_wp2
                go_loopw [8, 15] (fun v t wx => (t = .int .i64 0 ∧ RW w G wc.heap.size AA [c] XS [] v wx) ∨ (t = .int .i64 1 ∧ RW w G wc.heap.size AA [c] XS [c % 256] v wx) ∨ (t = .int .i64 2 ∧ RW w G wc.heap.size AA [c] XS [c % 256, c / 256 % 256] v wx) ∨ (t = .int .i64 3 ∧ RW w G wc.heap.size AA [c] XS [c % 256, c / 256 % 256, c / 65536 % 256] v wx) ∨ (t = .int .i64 4 ∧ RW w G wc.heap.size AA [c] XS [c % 256, c / 256 % 256, c / 65536 % 256, c / 16777216 % 256] v wx)) (fun _ t _ => 4 - (intOf t).toNat)
                case atStart => exact .inl (⟨rfl, hR⟩)
                case round =>
                  clear hR
                  rcases hrel with ⟨rfl, hR⟩ | ⟨rfl, hR⟩ | ⟨rfl, hR⟩ | ⟨rfl, hR⟩ | ⟨rfl, hR⟩
                  · have q1 : wr.cell? ⟨wc.heap.size, 0, none⟩ = some (.int .i64 (c)) := hR.2.2.1.cell 0 (by simp)
                    have hsz := hR.2.2.2.size
                    go_wp2_with (at_builtin; refine wpList_append_own _ rfl _ _ 22 rfl w.heap.size 5 j0 (.int .u8 0) 1 1 Tryd.underlying22 hj jz0 jz1 jz2 rfl (by decide) _ _ _ rfl (hR.1.alloc _) ⟨wr.heap.size, 0, none⟩ 1 1 [.int .u8 _] rfl rfl (cell_one_new _ _ _) (by simp [Value.oneCell']) (by first | omega | (simp only [List.length_cons, List.length_nil]; omega) | (unfold maxLen; simp only [List.length_cons, List.length_nil]; omega) | (simp; omega) | simp) (by first | omega | (simp only [List.length_cons, List.length_nil]; omega) | (unfold maxLen; simp only [List.length_cons, List.length_nil]; omega) | (simp; omega) | simp) (by first | omega | (simp only [List.length_cons, List.length_nil]; omega) | (unfold maxLen; simp only [List.length_cons, List.length_nil]; omega) | (simp; omega) | simp) ?_; intro v' w1 hown' hgrow _)
                    go_roundw
                    case rel => exact .inr (.inl (⟨rfl, hR.step (c % 256) hown' hgrow (by first | rfl | go_num)⟩))
                    case measure => simp [intOf]
                  · have q1 : wr.cell? ⟨wc.heap.size, 0, none⟩ = some (.int .i64 (c)) := hR.2.2.1.cell 0 (by simp)
                    have hsz := hR.2.2.2.size
                    go_wp2_with (at_builtin; refine wpList_append_own _ rfl _ _ 22 rfl w.heap.size 5 j0 (.int .u8 0) 1 1 Tryd.underlying22 hj jz0 jz1 jz2 rfl (by decide) _ _ _ rfl (hR.1.alloc _) ⟨wr.heap.size, 0, none⟩ 1 1 [.int .u8 _] rfl rfl (cell_one_new _ _ _) (by simp [Value.oneCell']) (by first | omega | (simp only [List.length_cons, List.length_nil]; omega) | (unfold maxLen; simp only [List.length_cons, List.length_nil]; omega) | (simp; omega) | simp) (by first | omega | (simp only [List.length_cons, List.length_nil]; omega) | (unfold maxLen; simp only [List.length_cons, List.length_nil]; omega) | (simp; omega) | simp) (by first | omega | (simp only [List.length_cons, List.length_nil]; omega) | (unfold maxLen; simp only [List.length_cons, List.length_nil]; omega) | (simp; omega) | simp) ?_; intro v' w1 hown' hgrow _)
                    go_roundw
                    case rel => exact .inr (.inr (.inl (⟨rfl, hR.step (c / 256 % 256) hown' hgrow (by first | rfl | go_num)⟩)))
                    case measure => simp [intOf]
                  · have q1 : wr.cell? ⟨wc.heap.size, 0, none⟩ = some (.int .i64 (c)) := hR.2.2.1.cell 0 (by simp)
                    have hsz := hR.2.2.2.size
                    go_wp2_with (at_builtin; refine wpList_append_own _ rfl _ _ 22 rfl w.heap.size 5 j0 (.int .u8 0) 1 1 Tryd.underlying22 hj jz0 jz1 jz2 rfl (by decide) _ _ _ rfl (hR.1.alloc _) ⟨wr.heap.size, 0, none⟩ 1 1 [.int .u8 _] rfl rfl (cell_one_new _ _ _) (by simp [Value.oneCell']) (by first | omega | (simp only [List.length_cons, List.length_nil]; omega) | (unfold maxLen; simp only [List.length_cons, List.length_nil]; omega) | (simp; omega) | simp) (by first | omega | (simp only [List.length_cons, List.length_nil]; omega) | (unfold maxLen; simp only [List.length_cons, List.length_nil]; omega) | (simp; omega) | simp) (by first | omega | (simp only [List.length_cons, List.length_nil]; omega) | (unfold maxLen; simp only [List.length_cons, List.length_nil]; omega) | (simp; omega) | simp) ?_; intro v' w1 hown' hgrow _)
                    go_roundw
                    case rel => exact .inr (.inr (.inr (.inl (⟨rfl, hR.step (c / 65536 % 256) hown' hgrow (by first | rfl | go_num)⟩))))
                    case measure => simp [intOf]
                  · have q1 : wr.cell? ⟨wc.heap.size, 0, none⟩ = some (.int .i64 (c)) := hR.2.2.1.cell 0 (by simp)
                    have hsz := hR.2.2.2.size
                    go_wp2_with (at_builtin; refine wpList_append_own _ rfl _ _ 22 rfl w.heap.size 5 j0 (.int .u8 0) 1 1 Tryd.underlying22 hj jz0 jz1 jz2 rfl (by decide) _ _ _ rfl (hR.1.alloc _) ⟨wr.heap.size, 0, none⟩ 1 1 [.int .u8 _] rfl rfl (cell_one_new _ _ _) (by simp [Value.oneCell']) (by first | omega | (simp only [List.length_cons, List.length_nil]; omega) | (unfold maxLen; simp only [List.length_cons, List.length_nil]; omega) | (simp; omega) | simp) (by first | omega | (simp only [List.length_cons, List.length_nil]; omega) | (unfold maxLen; simp only [List.length_cons, List.length_nil]; omega) | (simp; omega) | simp) (by first | omega | (simp only [List.length_cons, List.length_nil]; omega) | (unfold maxLen; simp only [List.length_cons, List.length_nil]; omega) | (simp; omega) | simp) ?_; intro v' w1 hown' hgrow _)
                    go_roundw
                    case rel => exact .inr (.inr (.inr (.inr (⟨rfl, hR.step (c / 16777216 % 256) hown' hgrow (by first | rfl | go_num)⟩))))
                    case measure => simp [intOf]
                  · go_wp2
                    go_roundw
                    case rel => exact .inr (⟨rfl, hR⟩)
                    case measure => simp [intOf]
              · go_wp2
                obtain ⟨hr2, hH2, hB2⟩ := hR.whole
                go_roundw
                case rel => exact ⟨k + 1, by omega, by go_num, (fun j hj => by by_cases e : j = k; subst e; rw [Hc.out]; exact HBD.out; exact HG.out j (by omega)), (by rw [HX.out]; exact hr2), hH2, hB2⟩
                case measure => simp [intOf]; omega
          · go_wp2
            go_ret
            exact ⟨rfl, hBr⟩
      · obtain rfl : k = AA.length := by omega
        rw [List.take_length] at hrow
        have P := points_w true false l AA HAA.out hn HG.out u8 _ _ wr wr (tabs_below HT.out h1 hBr) (by omega) (Below.refl _ _) hrow
        have HIr := is_below' HI.out hpa hBr
        clear hrow hH
        go_wp2_with (first | (go_at_call 9; refine P.mono ?_; rintro e w5 ⟨a5, c5, rfl, hI5, hb5⟩) | (go_at_call 13; refine (num_any _ _).mono ?_; rintro e w' ⟨rfl, rfl⟩) | (go_at_call 14; refine (same_same a5 p l c5 cap _ (by omega) hI5 (is_below' HIr (fun a e hh => by have := hpa a e hh; omega) hb5)).mono ?_; rintro e w' ⟨rfl, n, rfl⟩))
        go_ret
        exact ⟨rfl, below_drewN (hBr.trans (hb5.mono hBs)) _⟩
end Go.Proofs.YtdkodepeglpimaaDoor
