/- The document's own DoubleRead, as it runs. -/
import Derived.Test.YtpiefdpcinjkpaaDoorRdq
import Derived.Deep.CutBlock
import Derived.Deep.DeepCutAuto
set_option linter.unusedVariables false
set_option linter.unusedSimpArgs false
namespace Go.Proofs.YtpiefdpcinjkpaaDoor
open Go.RowKit Go.Shelf

set_option maxRecDepth 100000 in
set_option maxHeartbeats 600000 in
theorem refRead_any (p : Option Addr) (R : List Row) (cap : Nat) (w : World) (hM : Mt w p R) (hn : R.length ≤ 40) (ht : ∀ r ∈ R, r.t.length ≤ 200) :
    Calls Tryd.prog 12 #[.slice p R.length cap] w fun e w' => Below w.heap.size w w' ∧
      ((∃ k, k < R.length ∧ (∀ j, j < k → flP (decide (j + 1 = R.length)) 0 (lAt (R.map (·.t)) j) = 0) ∧ flP (decide (k + 1 = R.length)) 0 (lAt (R.map (·.t)) k) ≠ 0 ∧ e = .returned (.tuple #[.slice none 0 0, .int .i64 (flP (decide (k + 1 = R.length)) 0 (lAt (R.map (·.t)) k) : Nat)])) ∨
       ((∀ j, j < R.length → flP (decide (j + 1 = R.length)) 0 (lAt (R.map (·.t)) j) = 0) ∧ ∃ v, e = .returned (.tuple #[v, .int .i64 0]) ∧ Owns w' w.heap.size v (rsAt (R.map (·.t)) R.length).out)) := by
  have hn2 : (R.length : Int) ≤ 40 := by omega
  obtain ⟨ls, hls⟩ : ∃ ls, R.map (·.t) = ls := ⟨_, rfl⟩
  rw [hls]
  have hlen : ls.length = R.length := by rw [← hls]; simp
  have hlr : ∀ k r, R[k]? = some r → lAt ls k = r.t := fun k r hr => by rw [← hls]; exact lAt_row hr
  clear hls
  obtain ⟨P, hP⟩ : ∃ P : Ending → World → Prop, P = fun e w' => Below w.heap.size w w' ∧
      ((∃ k, k < R.length ∧ (∀ j, j < k → flP (decide (j + 1 = R.length)) 0 (lAt ls j) = 0) ∧ flP (decide (k + 1 = R.length)) 0 (lAt ls k) ≠ 0 ∧ e = .returned (.tuple #[.slice none 0 0, .int .i64 (flP (decide (k + 1 = R.length)) 0 (lAt ls k) : Nat)])) ∨
       ((∀ j, j < R.length → flP (decide (j + 1 = R.length)) 0 (lAt ls j) = 0) ∧ ∃ v, e = .returned (.tuple #[v, .int .i64 0]) ∧ Owns w' w.heap.size v (rsAt ls R.length).out)) := ⟨_, rfl⟩
  rw [← hP]
  have HP : Hid (P = _) := hP
  clear hP
  go_enter Tryd.func12, Tryd.ntmps12
  go_wp2
  go_loopw [4, 5, 6, 8] (fun ov ev jv iv wr => ∃ (k : Nat), k ≤ R.length ∧ iv = .int .i64 k ∧ ev = .int .i64 ((rsAt ls k).em : Nat) ∧ jv = .bool (rsAt ls k).jn ∧ Owns wr w.heap.size ov (rsAt ls k).out ∧ Below w.heap.size w wr ∧ Hid (∀ j, j < k → flP (decide (j + 1 = R.length)) 0 (lAt ls j) = 0) ∧ (rsAt ls k).out.length ≤ k * 300 ∧ (rsAt ls k).em ≤ k) (fun _ _ _ iv _ => R.length - (intOf iv).toNat)
  case atStart => exact ⟨0, Nat.zero_le _, rfl, rfl, rfl, World.ownsRow_nil _ _ 3 1, Below.refl _ _, fun j hj => by omega, by simp [rsAt], by simp [rsAt]⟩
  case round =>
    obtain ⟨k, hk, rfl, rfl, rfl, ho, hb, Hok, hol, hel⟩ := hrel
    by_cases hlt : k < R.length
    · have hli : (k : Int) ≤ (R.length : Int) - 1 := by omega
      obtain ⟨r, hr⟩ : ∃ r, R[k]? = some r := ⟨_, List.getElem?_eq_getElem hlt⟩
      obtain ⟨b, o, rfl, hcell⟩ := (hM.on hb).at (by omega)
      have c0 := hcell k r hr
      have hIr := ((hM.on hb).1 k r hr).2.2
      have hl := hlr k r hr
      have hrt := ht r (List.mem_of_getElem? hr)
      have IT := items_any r.q r.t r.c (decide (k + 1 = R.length)) wr (by omega) hIr
      have hbl : ((k : Int) == (R.length : Int) - 1) = decide (k + 1 = R.length) := by
        by_cases h : k + 1 = R.length
        · rw [decide_eq_true h]; simp; omega
        · rw [decide_eq_false h]; simp; omega
      rw [← hl] at IT
      unfold ItemsPost at IT
      rw [hl] at IT
      obtain ⟨va, vk, vq, rfl⟩ := ownsRow_form ho
      obtain ⟨rq, rt, rc⟩ := r
      dsimp only at c0 IT hrt hl hIr
      clear hcell hIr hr hM hlr
      by_cases hf : flP (decide (k + 1 = R.length)) 0 rt = 0
      · have HN : Hid (rsAt ls (k + 1) = rsNext (rsAt ls k) k R.length rt) := by show rsNext _ _ _ _ = _; rw [hlen, hl]
        have HO : Hid (∀ j, j < k + 1 → flP (decide (j + 1 = R.length)) 0 (lAt ls j) = 0) := fun j hj => by
          by_cases h : j = k
          · subst h; rw [hl]; exact hf
          · exact Hok.out j (by omega)
        have IT0 : Calls Tryd.prog 21 #[.slice rq rt.length rc, .bool (decide (k + 1 = R.length))] wr fun e w' => Below wr.heap.size wr w' ∧ ∃ p3 c3, e = .returned (.tuple #[.slice p3 (uP (decide (k + 1 = R.length)) rt).length c3, .bool (onP (decide (k + 1 = R.length)) rt), .int .i64 0]) ∧ Ij w' p3 (uP (decide (k + 1 = R.length)) rt) ∧ (uP (decide (k + 1 = R.length)) rt).length ≤ c3 ∧ c3 ≤ maxLen ∧ (uP (decide (k + 1 = R.length)) rt).length ≤ 200 := IT.mono (by
          rintro e w' ⟨h1, (⟨h2, -⟩ | ⟨-, v, on, u, h3, h4, h5, h6, h7⟩)⟩
          · exact absurd hf h2
          · obtain ⟨rfl, rfl⟩ := it_split h5 h6
            obtain ⟨a3, k3, c3, rfl⟩ := ownsRow_form h4
            obtain ⟨g1, rfl, g3, g4⟩ := ii_of_row h4 rfl
            exact ⟨h1, a3, c3, h3, ij_of_row h4 rfl, g3, g4, by omega⟩)
        clear IT
        unfold rsNext ruP at HN
        have hq1 : (rsAt ls k).em ≤ 40 := by omega
        generalize rsAt ls k = S at ho hol hel HN hq1
        obtain ⟨out, em, jn⟩ := S
        dsimp only at ho hol hel HN hq1
        generalize uP (decide (k + 1 = R.length)) rt = u at IT0 HN
        generalize onP (decide (k + 1 = R.length)) rt = on at IT0 HN
        rw [← hbl] at IT0
        have hw : (R.length : Int) - 1 - k = ((R.length - 1 - k : Nat) : Int) := by omega
        clear hf hl hlen hbl hrt hw
        obtain ⟨F, hF⟩ : ∃ F, F = frI (decide (0 < k)) u := ⟨_, rfl⟩
        have HFF : Hid (F = frI (decide (0 < k)) u) := hF
        rw [← hF] at HN
        have hFl : F.length ≤ u.length := by rw [hF]; exact frI_len _ _
        clear hF
        go_upto_block 2 with (first | (go_at_call 21; refine IT0.mono ?_; rintro e W3 ⟨hb3, p3, c3, rfl, hi3, hu3, hc3, hu4⟩))
        go_cut [9] (fun s9 wx => ∃ p9 c9, s9 = .slice p9 F.length c9 ∧ F.length ≤ c9 ∧ c9 ≤ maxLen ∧ Ij wx p9 F ∧ Below W3.heap.size W3 wx)
        case first =>
          go_wp2_with fail
          go_loopw [9] (fun s9 wx => ∃ p9 c9 x, s9 = .slice p9 x.length c9 ∧ x.length ≤ c9 ∧ c9 ≤ maxLen ∧ Ij wx p9 x ∧ Below W3.heap.size W3 wx ∧ Hid (F = frI (decide (0 < k)) x) ∧ x.length ≤ 200) (fun s9 _ => lenV s9)
          case atStart => exact ⟨p3, c3, u, rfl, hu3, hc3, hi3, Below.refl _ _, HFF, hu4⟩
          case round =>
            obtain ⟨p9, c9, x, rfl, hx1, hx2, hx3, hx4, HX, hx5⟩ := hrel
            by_cases hk0 : k = 0
            · have hki : ¬ (0 < (k : Int)) := by omega
              have hFx : F = x := by rw [HX.out, decide_eq_false (by omega)]; rfl
              subst hFx
              clear HX HFF hk0
              go_wp2
              go_meet
              exact ⟨_, _, rfl, hx1, hx2, hx3, hx4⟩
            · have hki : 0 < (k : Int) := by omega
              have HX2 : Hid (F = x.dropWhile softI) := by show _ = _; rw [HX.out, decide_eq_true (by omega)]; rfl
              cases x with
              | nil =>
                have hFx : F = [] := HX2.out
                subst hFx
                clear HX HFF hk0 HX2 
                go_wp2
                go_meet
                exact ⟨_, _, rfl, hx1, hx2, hx3, hx4⟩
              | cons y r =>
                obtain ⟨yc, yh⟩ := y
                obtain ⟨b9, o9, rfl, hu9⟩ := hx3.1.at (by simp)
                obtain ⟨d0, d1⟩ := hu9 0 (yc, yh) rfl
                dsimp only at d0 d1
                rw [Nat.mul_zero, Nat.add_zero] at d0 d1
                have SF := fun W => soft_any yc yh W
                clear hu9
                have hxi : 0 < ((r.length : Int) + 1) := by omega
                by_cases hs : softI (yc, yh) = true
                · have hs2 : (!yh && blankP yc) = true := hs
                  simp only [hs2] at SF
                  have HX3 : Hid (F = frI (decide (0 < k)) r) := by
                    show _ = _
                    rw [HX2.out, decide_eq_true (by omega), List.dropWhile_cons, if_pos hs]; rfl
                  have sl := fun W => slice45_from (some ⟨b9, o9, none⟩) (r.length + 1) c9 (by omega) hx1 W
                  have hT := hx3.tail c9 hx1
                  rw [List.drop_one, List.tail_cons] at hT
                  generalize (if c9 = 1 then some (⟨b9, o9, none⟩ : Addr) else (some (⟨b9, o9, none⟩ : Addr)).map (·.add 2)) = pt at sl hT
                  clear HX HX2 HFF hs hs2 hk0
                  rw [List.length_cons] at hx1 hx5
                  rw [Nat.add_sub_cancel] at sl
                  go_wp2_with (first | (go_at_call 22; refine (SF _).mono ?_; rintro e W5 ⟨rfl, h5⟩))
                  go_roundw
                  case rel => exact ⟨_, _, r, rfl, by omega, by omega, hT.on ((Below.refl _ _).alloc (Nat.le_refl _) _), hx4.alloc hx4.size _, HX3, by omega⟩
                  case measure => simp [lenV]
                · have hs2 : (!yh && blankP yc) = false := Bool.eq_false_iff.2 hs
                  have hFx : F = (yc, yh) :: r := by rw [HX2.out, List.dropWhile_cons, if_neg hs]
                  subst hFx
                  simp only [hs2] at SF
                  clear HX HX2 HFF hs hs2 hk0
                  go_wp2_with (first | (go_at_call 22; refine (SF _).mono ?_; rintro e W5 ⟨rfl, h5⟩))
                  go_meet
                  exact ⟨_, _, rfl, hx1, hx2, hx3.on ((Below.refl _ _).alloc (Nat.le_refl _) _), hx4.alloc hx4.size _⟩
        case rest =>
          obtain ⟨p9, c9, rfl, hF1, hF2, hF3, hF4⟩ := hcut
          clear hi3 hu3 hc3 HFF
          obtain ⟨B, hB⟩ : ∃ B, B = bkI (decide (k + 1 < R.length) && !on) F := ⟨_, rfl⟩
          have HBB : Hid (B = bkI (decide (k + 1 < R.length) && !on) F) := hB
          rw [← hB] at HN
          have hBl : B.length ≤ F.length := by rw [hB]; exact bkI_len _ _
          clear hB
          go_upto_block 4 with fail
          go_cut [9] (fun s9 wx => ∃ p9 c9, s9 = .slice p9 B.length c9 ∧ B.length ≤ c9 ∧ c9 ≤ maxLen ∧ Ij wx p9 B ∧ Below W3.heap.size W3 wx)
          case first =>
            go_wp2_with fail
            go_loopw [9] (fun s9 wx => ∃ p9 c9 x, s9 = .slice p9 x.length c9 ∧ x.length ≤ c9 ∧ c9 ≤ maxLen ∧ Ij wx p9 x ∧ Below W3.heap.size W3 wx ∧ Hid (B = bkI (decide (k + 1 < R.length) && !on) x) ∧ x.length ≤ 200) (fun s9 _ => lenV s9)
            case atStart => exact ⟨p9, c9, F, rfl, hF1, hF2, hF3, hF4, HBB, by omega⟩
            case round =>
              obtain ⟨p9, c9, x, rfl, hx1, hx2, hx3, hx4, HX, hx5⟩ := hrel
              by_cases hk0 : k + 1 < R.length
              · have hki : (k : Int) < (R.length : Int) - 1 := by omega
                rw [decide_eq_true hk0, Bool.true_and] at HX
                cases on with
                | true =>
                  have hFx : B = x := HX.out
                  subst hFx
                  clear HX HBB hk0
                  go_wp2
                  go_meet
                  exact ⟨_, _, rfl, hx1, hx2, hx3, hx4⟩
                | false =>
                  rw [Bool.not_false] at HX
                  rcases List.eq_nil_or_concat x with rfl | ⟨r, y, rfl⟩
                  · have hFx : B = [] := HX.out
                    subst hFx
                    clear HX HBB hk0
                    go_wp2
                    go_meet
                    exact ⟨_, _, rfl, hx1, hx2, hx3, hx4⟩
                  · rw [List.concat_eq_append] at *
                    obtain ⟨yc, yh⟩ := y
                    obtain ⟨b9, o9, rfl, hu9⟩ := hx3.1.at (by simp)
                    obtain ⟨d0, d1⟩ := hu9 r.length (yc, yh) (by simp)
                    dsimp only at d0 d1
                    rw [Nat.mul_comm] at d0 d1
                    have SF := fun W => soft_any yc yh W
                    clear hu9
                    have hxi : 0 < ((r.length : Int) + 1) := by omega
                    have hL : (r ++ [(yc, yh)]).length = r.length + 1 := by simp
                    rw [hL] at hx1 hx5 
                    have HX2 : Hid (B = if softI (yc, yh) then bkI true r else r ++ [(yc, yh)]) := by show _ = _; rw [HX.out, bkI_concat]
                    by_cases hs : softI (yc, yh) = true
                    · have hs2 : (!yh && blankP yc) = true := hs
                      simp only [hs2] at SF
                      have HX3 : Hid (B = bkI (decide (k + 1 < R.length) && !false) r) := by
                        show _ = _
                        rw [HX2.out, if_pos hs, decide_eq_true hk0]; rfl
                      have sl := fun W => slice45_to (some ⟨b9, o9, none⟩) (r.length + 1) c9 r.length (by omega) W
                      have hT := hx3.init r.length
                      rw [List.take_left] at hT
                      clear HX HX2 HBB hs hs2 hk0 hL
                      go_wp2_with (first | (go_at_call 22; refine (SF _).mono ?_; rintro e W5 ⟨rfl, h5⟩))
                      go_roundw
                      case rel => exact ⟨_, _, r, rfl, by omega, by omega, hT.on ((Below.refl _ _).alloc (Nat.le_refl _) _), hx4.alloc hx4.size _, HX3, by omega⟩
                      case measure => simp [lenV]
                    · have hs2 : (!yh && blankP yc) = false := Bool.eq_false_iff.2 hs
                      have hFx : B = r ++ [(yc, yh)] := by rw [HX2.out, if_neg hs]
                      subst hFx
                      simp only [hs2] at SF
                      clear HX HX2 HBB hs hs2 hk0
                      go_wp2_with (first | (go_at_call 22; refine (SF _).mono ?_; rintro e W5 ⟨rfl, h5⟩))
                      go_meet
                      exact ⟨_, _, by rw [hL], by rw [hL]; exact hx1, hx2, hx3.on ((Below.refl _ _).alloc (Nat.le_refl _) _), hx4.alloc hx4.size _⟩
              · have hki : ¬ (k : Int) < (R.length : Int) - 1 := by omega
                have hFx : B = x := by rw [HX.out, decide_eq_false hk0]; rfl
                subst hFx
                clear HX HBB hk0
                go_wp2
                go_meet
                exact ⟨_, _, rfl, hx1, hx2, hx3, hx4⟩
          case rest =>
            obtain ⟨q9, e9, rfl, hB1, hB2, hB3, hB4⟩ := hcut
            have hoC := owns_on ho (hb3.trans (hB4.mono hb3.size))
            have hbC := hb.trans ((hb3.trans (hB4.mono hb3.size)).mono hb.size)
            have hBn : B.length ≤ 200 := by omega
            clear hF1 hF2 hF3 hF4 HBB hBl hFl ho hb hb3 hB4 c0 IT0
            go_upto_region 15 with fail
            go_cut [97] (fun s wx => s = .bool (decide (0 < k ∧ k + 1 < R.length ∧ B = [] ∧ on = false ∧ jn = false)) ∧ wx = wc)
            case first =>
              clear HN Hok HO HP
              by_cases h1 : 0 < k
              · have h1i : 0 < (k : Int) := by omega
                by_cases h2 : k + 1 < R.length
                · have h2i : (k : Int) < (R.length : Int) - 1 := by omega
                  by_cases h3 : B = []
                  · have h3i : (B.length : Int) = 0 := by rw [h3]; rfl
                    have h3b : ((B.length : Int) == 0) = true := by rw [h3]; rfl
                    clear hB1 hB3
                    cases on with
                    | true =>
                      have hd := decide_eq_false (p := 0 < k ∧ k + 1 < R.length ∧ B = [] ∧ true = false ∧ jn = false) (fun h => by cases h.2.2.2.1)
                      clear h3
                      go_wp2
                      go_meet
                      exact ⟨congrArg Value.bool hd.symm, rfl⟩
                    | false =>
                      cases jn with
                      | true =>
                        have hd := decide_eq_false (p := 0 < k ∧ k + 1 < R.length ∧ B = [] ∧ false = false ∧ true = false) (fun h => by cases h.2.2.2.2)
                        clear h3
                        go_wp2
                        go_meet
                        exact ⟨congrArg Value.bool hd.symm, rfl⟩
                      | false =>
                        have hd := decide_eq_true (p := 0 < k ∧ k + 1 < R.length ∧ B = [] ∧ false = false ∧ false = false) ⟨h1, h2, h3, rfl, rfl⟩
                        clear h3
                        go_wp2
                        go_meet
                        exact ⟨congrArg Value.bool hd.symm, rfl⟩
                  · have h3i : ¬ (B.length : Int) = 0 := fun h => h3 (List.eq_nil_of_length_eq_zero (by omega))
                    have h3b : ((B.length : Int) == 0) = false := by simpa using h3i
                    have hd := decide_eq_false (p := 0 < k ∧ k + 1 < R.length ∧ B = [] ∧ on = false ∧ jn = false) (fun h => h3 h.2.2.1)
                    clear h3
                    go_wp2
                    go_meet
                    exact ⟨congrArg Value.bool hd.symm, rfl⟩
                · have h2i : ¬ (k : Int) < (R.length : Int) - 1 := by omega
                  have hd := decide_eq_false (p := 0 < k ∧ k + 1 < R.length ∧ B = [] ∧ on = false ∧ jn = false) (fun h => h2 h.2.1)
                  go_wp2
                  go_meet
                  exact ⟨congrArg Value.bool hd.symm, rfl⟩
              · have h1i : ¬ 0 < (k : Int) := by omega
                have hd := decide_eq_false (p := 0 < k ∧ k + 1 < R.length ∧ B = [] ∧ on = false ∧ jn = false) (fun h => h1 h.1)
                go_wp2
                go_meet
                exact ⟨congrArg Value.bool hd.symm, rfl⟩
            case rest =>
              obtain ⟨rfl, rfl⟩ := hcut
              by_cases hcn : 0 < k ∧ k + 1 < R.length ∧ B = [] ∧ on = false ∧ jn = false
              · rw [decide_eq_true hcn]
                have HN2 : Hid (rsAt ls (k + 1) = ⟨out, em + 1, false⟩) := by show _ = _; rw [HN.out, if_pos hcn]
                obtain ⟨-, -, -, -, rfl⟩ := hcn
                clear HN Hok
                go_wp2
                go_roundw
                case rel =>
                  exact ⟨k + 1, by omega, by go_num, by rw [HN2.out]; go_num, by rw [HN2.out], by rw [HN2.out]; exact hoC, hbC, HO, by rw [HN2.out]; show out.length ≤ _; omega, by rw [HN2.out]; show em + 1 ≤ _; omega⟩
                case measure => simp [intOf]; omega
              · rw [decide_eq_false hcn]
                have HN2 : Hid (rsAt ls (k + 1) = ⟨out ++ (if 0 < k ∧ jn = false ∧ em = 0 then [32] else []) ++ List.replicate em 10 ++ B.map (·.1), 0, on⟩) := by show _ = _; rw [HN.out, if_neg hcn]
                clear HN Hok hcn
                go_upto_region 17 with fail
                go_cut [109] (fun s wx => s = .bool (decide (0 < k ∧ jn = false ∧ em = 0)) ∧ wx = wc)
                case first =>
                  clear HN2 HO HP
                  by_cases h1 : 0 < k
                  · have h1i : 0 < (k : Int) := by omega
                    cases jn with
                    | true =>
                      have hd := decide_eq_false (p := 0 < k ∧ true = false ∧ em = 0) (fun h => by cases h.2.1)
                      go_wp2
                      go_meet
                      exact ⟨congrArg Value.bool hd.symm, rfl⟩
                    | false =>
                      by_cases h2 : em = 0
                      · have hd := decide_eq_true (p := 0 < k ∧ false = false ∧ em = 0) ⟨h1, rfl, h2⟩
                        have h2b : ((em : Int) == 0) = true := by simpa using h2
                        clear h2
                        go_wp2
                        go_meet
                        exact ⟨congrArg Value.bool hd.symm, rfl⟩
                      · have hd := decide_eq_false (p := 0 < k ∧ false = false ∧ em = 0) (fun h => h2 h.2.2)
                        have h2i : ¬ (em : Int) = 0 := by omega
                        have h2b : ((em : Int) == 0) = false := by simpa using h2
                        go_wp2
                        go_meet
                        exact ⟨congrArg Value.bool hd.symm, rfl⟩
                  · have h1i : ¬ 0 < (k : Int) := by omega
                    have hd := decide_eq_false (p := 0 < k ∧ jn = false ∧ em = 0) (fun h => h1 h.1)
                    go_wp2
                    go_meet
                    exact ⟨congrArg Value.bool hd.symm, rfl⟩
                case rest =>
                  obtain ⟨rfl, rfl⟩ := hcut
                  obtain ⟨out1, ho1⟩ : ∃ out1, out1 = out ++ (if 0 < k ∧ jn = false ∧ em = 0 then [32] else []) := ⟨_, rfl⟩
                  rw [← ho1] at HN2
                  have HO1 : Hid (out1 = out ++ (if 0 < k ∧ jn = false ∧ em = 0 then [32] else [])) := ho1
                  have hl1 : out1.length ≤ out.length + 1 := by
                    rw [ho1, List.length_append]
                    split <;> simp
                  clear ho1
                  go_upto_if 109 with fail
                  go_cut [4] (fun s4 wx => ∃ p4 k4 c4, s4 = .slice p4 k4 c4 ∧ Owns wx w.heap.size (.slice p4 k4 c4) out1 ∧ Below w.heap.size w wx ∧ Ij wx q9 B)
                  case first =>
                    clear HN2 HO HP
                    by_cases hsp : 0 < k ∧ jn = false ∧ em = 0
                    · rw [decide_eq_true hsp]
                      have hO : out1 = out ++ [32] := by rw [HO1.out, if_pos hsp]
                      subst hO
                      obtain ⟨v4, W4, hr4, ho4, hb4, hj4⟩ := push1j hoC hbC.size (by omega) 32 hB3
                      obtain ⟨v4a, v4k, v4c, rfl⟩ := ownsRow_form ho4
                      clear HO1 hsp
                      go_wp2_with (first | (at_builtin; refine wpList_append_run (u := .slice va vk vq) (y := .slice (some ⟨wc.heap.size, 0, none⟩) 1 1) rfl _ _ 25 rfl rfl rfl hr4 ?_; clear hr4))
                      go_meet
                      exact ⟨_, _, _, rfl, ho4, hbC.trans hb4, hj4⟩
                    · rw [decide_eq_false hsp]
                      have hO : out1 = out := by rw [HO1.out, if_neg hsp, List.append_nil]
                      subst hO
                      clear HO1 hsp
                      go_wp2
                      go_meet
                      exact ⟨_, _, _, rfl, hoC, hbC, hB3⟩
                  case rest =>
                    obtain ⟨p4, k4, c4, rfl, ho4, hb4, hj4⟩ := hcut
                    clear HO1 hoC hbC hB3
                    go_wp2
                    go_loopw [4, 12] (fun s4 iv wx => ∃ i : Nat, i ≤ em ∧ iv = .int .i64 i ∧ Owns wx w.heap.size s4 (out1 ++ List.replicate i 10) ∧ Below w.heap.size w wx ∧ Ij wx q9 B) (fun _ iv _ => em - (intOf iv).toNat)
                    case atStart => exact ⟨0, Nat.zero_le _, rfl, by simpa using ho4, hb4, hj4⟩
                    case round =>
                      obtain ⟨i, hi, rfl, ho5, hb5, hj5⟩ := hrel
                      obtain ⟨xa, xk, xq, rfl⟩ := ownsRow_form ho5
                      clear ho4 hb4 hj4
                      by_cases hlt5 : i < em
                      · have hi5 : (i : Int) < em := by omega
                        obtain ⟨v6, W6, hr6, ho6, hb6, hj6⟩ := push1j ho5 hb5.size (by simp; omega) 10 hj5
                        obtain ⟨v6a, v6k, v6c, rfl⟩ := ownsRow_form ho6
                        rw [List.append_assoc, ← List.replicate_succ'] at ho6
                        clear HN2 HO HP
                        go_wp2_with (first | (at_builtin; refine wpList_append_run (u := .slice xa xk xq) (y := .slice (some ⟨wr.heap.size, 0, none⟩) 1 1) rfl _ _ 25 rfl rfl rfl hr6 ?_; clear hr6))
                        go_roundw
                        case rel => exact ⟨i + 1, by omega, by go_num, ho6, hb5.trans hb6, hj6⟩
                        case measure => simp [intOf]; omega
                      · obtain rfl : i = em := by omega
                        have hi5 : ¬ (i : Int) < i := by omega
                        obtain ⟨out2, ho2⟩ : ∃ out2, out2 = out1 ++ List.replicate i 10 := ⟨_, rfl⟩
                        rw [← ho2] at ho5 HN2
                        have hl2 : out2.length ≤ out1.length + i := by rw [ho2]; simp
                        clear ho2 hlt5 hi
                        go_wp2
                        go_loopw [4, 13] (fun s4 iv wx => ∃ j : Nat, j ≤ B.length ∧ iv = .int .i64 j ∧ Owns wx w.heap.size s4 (out2 ++ (B.take j).map (·.1)) ∧ Below w.heap.size w wx ∧ Ij wx q9 B) (fun _ iv _ => B.length - (intOf iv).toNat)
                        case atStart => exact ⟨0, Nat.zero_le _, rfl, by simpa using ho5, hb5, hj5⟩
                        case round =>
                          obtain ⟨j, hj, rfl, ho7, hb7, hj7⟩ := hrel
                          obtain ⟨ya, yk, yq, rfl⟩ := ownsRow_form ho7
                          clear ho5 hb5 hj5
                          by_cases hlt7 : j < B.length
                          · have hi7 : (j : Int) < B.length := by omega
                            obtain ⟨y, hy⟩ : ∃ y, B[j]? = some y := ⟨_, List.getElem?_eq_getElem hlt7⟩
                            obtain ⟨b9, o9, rfl, hu9⟩ := hj7.1.at (by omega)
                            obtain ⟨d0, d1⟩ := hu9 j y hy
                            rw [Nat.mul_comm] at d0 d1
                            have hml : ((B.take j).map (·.1)).length ≤ 200 := by simp; omega
                            obtain ⟨v6, W6, hr6, ho6, hb6, hj6⟩ := push1j ho7 hb7.size (by rw [List.length_append]; omega) y.1 hj7
                            obtain ⟨v6a, v6k, v6c, rfl⟩ := ownsRow_form ho6
                            have htk : out2 ++ (B.take j).map (·.1) ++ [y.1] = out2 ++ (B.take (j + 1)).map (·.1) := by
                              rw [List.take_add_one, hy]; simp
                            rw [htk] at ho6
                            generalize y.1 = yc at d0 hr6
                            generalize y.2 = yh at d1
                            clear HN2 HO HP hu9 htk hy hml
                            go_wp2_with (first | (at_builtin; refine wpList_append_run (u := .slice ya yk yq) (y := .slice (some ⟨wr.heap.size, 0, none⟩) 1 1) rfl _ _ 25 rfl rfl rfl hr6 ?_; clear hr6))
                            go_roundw
                            case rel => exact ⟨j + 1, by omega, by go_num, ho6, hb7.trans hb6, hj6⟩
                            case measure => simp [intOf]; omega
                          · obtain rfl : j = B.length := by omega
                            have hi7 : ¬ (B.length : Int) < B.length := by omega
                            rw [List.take_length] at ho7
                            have hml : (B.map (·.1)).length ≤ 200 := by simp; omega
                            clear hj hlt7
                            go_wp2
                            go_roundw
                            case rel => exact ⟨k + 1, by omega, by go_num, by rw [HN2.out]; go_num, by rw [HN2.out], by rw [HN2.out]; exact ho7, hb7, HO, by rw [HN2.out]; show (out2 ++ B.map (·.1)).length ≤ _; rw [List.length_append]; omega, by rw [HN2.out]; exact Nat.zero_le _⟩
                            case measure => simp [intOf]; omega
      · have IT0 : Calls Tryd.prog 21 #[.slice rq rt.length rc, .bool (decide (k + 1 = R.length))] wr fun e w' => e = .returned (.tuple #[.slice none 0 0, .bool false, .int .i64 (flP (decide (k + 1 = R.length)) 0 rt : Nat)]) ∧ Below wr.heap.size wr w' := IT.mono (by
          rintro e w' ⟨h1, (⟨-, h3⟩ | ⟨h2, -⟩)⟩
          · exact ⟨h3, h1⟩
          · exact absurd h2 hf)
        have hf' : ¬ ((flP (decide (k + 1 = R.length)) 0 rt : Nat) : Int) = 0 := by omega
        have hf2 : (((flP (decide (k + 1 = R.length)) 0 rt : Nat) : Int) == 0) = false := by simpa using hf
        rw [← hbl] at IT0
        have HF : Hid (flP (decide (k + 1 = R.length)) 0 (lAt ls k) = flP (decide (k + 1 = R.length)) 0 rt) := by show _ = _; rw [hl]
        rw [hbl] at IT0
        clear IT
        generalize flP (decide (k + 1 = R.length)) 0 rt = fl at IT0 hf hf' hf2 HF
        rw [← hbl] at IT0
        have HF1 : Hid (fl ≠ 0) := hf
        clear hf hl hlen hbl hrt
        go_wp2_with fail
        go_at_call 21
        refine IT0.mono ?_
        rintro e W3 ⟨rfl, hb3⟩
        go_wp2
        rw [HP.out]
        exact ⟨hb.trans (hb3.mono hb.size), .inl ⟨k, hlt, Hok.out, by rw [HF.out]; exact HF1.out, by rw [HF.out]; rfl⟩⟩
    · obtain rfl : k = R.length := by omega
      obtain ⟨va, vk, vq, rfl⟩ := ownsRow_form ho
      clear hM hlr
      have hno : ¬ (R.length : Int) ≤ (R.length : Int) - 1 := by omega
      clear hk hlt hn hn2
      go_wp2
      rw [HP.out]
      exact ⟨hb, .inr ⟨Hok.out, _, rfl, ho⟩⟩
end Go.Proofs.YtpiefdpcinjkpaaDoor
