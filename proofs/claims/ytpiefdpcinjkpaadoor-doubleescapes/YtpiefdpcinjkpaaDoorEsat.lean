/- DoubleEscapes, as it runs: two digits, great ones. -/
import Derived.Test.YtpiefdpcinjkpaaDoorEsp
import Derived.Test.YtpiefdpcinjkpaaDoorAlv
set_option linter.unusedVariables false
set_option linter.unusedSimpArgs false
namespace Go.Proofs.YtpiefdpcinjkpaaDoor
open Go.RowKit Go.Shelf

set_option maxRecDepth 100000 in
set_option maxHeartbeats 4000000 in
theorem esc_law_0t (c : Int) (w : World) (hT : Tab w) :
    Calls Tryd.prog 7 #[.int .i64 c, .int .i64 0, .bool true] w fun e w' => e = .returned (.bool true) ∧ Below w.heap.size w w' := by
  have AL := alive_any w hT
  by_cases hc0 : c < 0
  · go_enter Tryd.func7, Tryd.ntmps7
    go_wp2_with (first | (go_at_call 9; refine AL.mono ?_; rintro e W1 ⟨rfl, hb⟩))
    go_ret
    exact ⟨rfl, hb.alloc hb.size _⟩
  by_cases hc1 : 256 ≤ c
  · go_enter Tryd.func7, Tryd.ntmps7
    go_wp2_with (first | (go_at_call 9; refine AL.mono ?_; rintro e W1 ⟨rfl, hb⟩))
    go_ret
    exact ⟨rfl, hb.alloc hb.size _⟩
  have ixs : ∀ W : World, (Instr.index 9 (.string ⟨#[120, 117, 85]⟩) (.int .i64 0)).run Tryd.prog W = .ok (.int .u8 120) W := fun _ => by kernel_rfl
  go_enter Tryd.func7, Tryd.ntmps7
  go_wp2_with (first | (go_at_call 9; refine AL.mono ?_; rintro e W1 ⟨rfl, hb1⟩))
  clear AL
  have h0 := owns_lit3 (W1.alloc (.cells #[.int .i64 2, .int .i64 4, .int .i64 8] 3)) 120 92 120
  have hbs := hb1.alloc hb1.size (.cells #[.int .i64 2, .int .i64 4, .int .i64 8] 3)
  have hbz := hbs.alloc hbs.size (.cells #[.int .i64 120, .int .i64 92, .int .i64 120] 3)
  have hBz : (W1.alloc (.cells #[.int .i64 2, .int .i64 4, .int .i64 8] 3)).heap.size ≤ ((W1.alloc (.cells #[.int .i64 2, .int .i64 4, .int .i64 8] 3)).alloc (.cells #[.int .i64 120, .int .i64 92, .int .i64 120] 3)).heap.size := by simp
  go_loopw [10, 11] (fun lv iv wr => ((iv = .int .i64 (1) ∧ Owns wr (W1.alloc (.cells #[.int .i64 2, .int .i64 4, .int .i64 8] 3)).heap.size lv ([120, 92, 120] ++ hexL true 0 (c / 256))) ∨ (iv = .int .i64 (0) ∧ Owns wr (W1.alloc (.cells #[.int .i64 2, .int .i64 4, .int .i64 8] 3)).heap.size lv ([120, 92, 120] ++ hexL true 1 (c / 16))) ∨ (iv = .int .i64 (-1) ∧ Owns wr (W1.alloc (.cells #[.int .i64 2, .int .i64 4, .int .i64 8] 3)).heap.size lv ([120, 92, 120] ++ hexL true 2 (c)))) ∧ Below w.heap.size w wr ∧ (W1.alloc (.cells #[.int .i64 2, .int .i64 4, .int .i64 8] 3)).heap.size ≤ wr.heap.size) (fun _ iv _ => (intOf iv + 1).toNat)
  case atStart => exact ⟨.inl ⟨rfl, by simpa [hexL] using h0⟩, hbz, hBz⟩
  case round =>
    obtain ⟨hd, hb, hB⟩ := hrel
    rcases hd with ⟨rfl, ho⟩ | ⟨rfl, ho⟩ | ⟨rfl, ho⟩
    · obtain ⟨va, vk, vc, rfl⟩ := ownsRow_form ho
      have hand := i64_and15 (c / 16)
      have hx0 : 0 ≤ c / 16 % 16 := by omega
      have hx1 : c / 16 % 16 < 16 := by omega
      have hstep : ([120, 92, 120] ++ hexL true 0 (c / 256)) ++ [dg true (c / 16 % 16)] = ([120, 92, 120] ++ hexL true 1 (c / 16)) := hex_step true 0 _ (c / 16) (c / 256) (by omega)
      generalize c / 16 % 16 = d at hand hx0 hx1 hstep
      have ix := fun W => idx_up d hx0 hx1 W
      obtain ⟨hg0, hg1⟩ := dg_range true d hx0 hx1
      generalize dg true d = x at ix hstep hg0 hg1
      obtain ⟨p4, k4, c4, W4, hr4, ho4, hb4⟩ := ap1 ho hB (by rw [List.length_append, hexL_len]; simp) x
      rw [hstep] at ho4
      clear hstep ho h0
      go_wp2_with (first | (at_builtin; refine wpList_append_run (u := .slice va vk vc) (y := .slice (some ⟨wr.heap.size, 0, none⟩) 1 1) rfl _ _ 25 rfl rfl rfl hr4 ?_; clear hr4))
      go_roundw
      case rel => exact ⟨.inr (.inl ⟨rfl, ho4⟩), hb.trans (hb4.mono (Nat.le_trans hb1.size (by simp))), Nat.le_trans hB hb4.size⟩
      case measure => simp [intOf]
    · obtain ⟨va, vk, vc, rfl⟩ := ownsRow_form ho
      have hand := i64_and15 (c)
      have hx0 : 0 ≤ c % 16 := by omega
      have hx1 : c % 16 < 16 := by omega
      have hstep : ([120, 92, 120] ++ hexL true 1 (c / 16)) ++ [dg true (c % 16)] = ([120, 92, 120] ++ hexL true 2 (c)) := hex_step true 1 _ (c) (c / 16) (by omega)
      generalize c % 16 = d at hand hx0 hx1 hstep
      have ix := fun W => idx_up d hx0 hx1 W
      obtain ⟨hg0, hg1⟩ := dg_range true d hx0 hx1
      generalize dg true d = x at ix hstep hg0 hg1
      obtain ⟨p4, k4, c4, W4, hr4, ho4, hb4⟩ := ap1 ho hB (by rw [List.length_append, hexL_len]; simp) x
      rw [hstep] at ho4
      clear hstep ho h0
      go_wp2_with (first | (at_builtin; refine wpList_append_run (u := .slice va vk vc) (y := .slice (some ⟨wr.heap.size, 0, none⟩) 1 1) rfl _ _ 25 rfl rfl rfl hr4 ?_; clear hr4))
      go_roundw
      case rel => exact ⟨.inr (.inr (⟨rfl, ho4⟩)), hb.trans (hb4.mono (Nat.le_trans hb1.size (by simp))), Nat.le_trans hB hb4.size⟩
      case measure => simp [intOf]
    · obtain ⟨va, vk, vc, rfl⟩ := ownsRow_form ho
      obtain ⟨hI, hk, hkc, hvm⟩ := is_of_row ho
      have hL : ([120, 92, 120] ++ hexL true 2 (c)).length = 5 := by rw [List.length_append, hexL_len]; rfl
      rw [hL] at hk
      subst hk
      have sl : ∀ W, (Instr.slice 25 (.slice va 5 vc) none (some (.int .i64 4)) none).run Tryd.prog W = .ok (.slice va 4 vc) W := fun W => slice_to va 5 vc 4 (by omega) W
      have hS : (([120, 92, 120] ++ hexL true 2 (c)).take 4).length = 4 := by rw [List.length_take, hL]; rfl
      have hTr := hT.on hb
      have RD1 := (Read_oneS va (([120, 92, 120] ++ hexL true 2 (c)).take 4) 4 vc wr hS.symm (hI.fore _) (by omega) hvm (by omega) hTr).1 2 (esc_short true 120 c (by decide)) (by decide)
      have EW := esc_whole true 120 c (by decide) (by omega) (show c < 16 ^ 2 by omega)
      have hB4 : ∀ W5, Below wr.heap.size wr W5 → Owns W5 (W1.alloc (.cells #[.int .i64 2, .int .i64 4, .int .i64 8] 3)).heap.size (.slice va 5 vc) ([120, 92, 120] ++ hexL true 2 (c)) := fun W5 h => ho.kept (⟨h.os, h.tape, h.output, h.size, fun k hk _ => h.block k hk⟩ : wr.grownBy W5 none) (ne_of_none fun g h e => by cases e)
      have CH : ∀ W5, Below wr.heap.size wr W5 → ∃ p6 k6 c6 W6, (Builtin.append_ #[25, 25] 25 #[.slice va 5 vc, .slice (some ⟨W5.heap.size, 0, none⟩) 1 1]).run Tryd.prog (W5.alloc (.cells #[.int .i64 121] 3)) = .ok (.slice p6 k6 c6) W6 ∧ Below w.heap.size w W6 ∧ (pointP c = false → Calls Tryd.prog 11 #[.slice (some ⟨W6.heap.size, 0, none⟩) 1 1] (W6.alloc (.cells #[.slice p6 k6 c6] 25)) fun e w' => e = .returned (.tuple #[.slice none 0 0, .int .i64 4]) ∧ Below W6.heap.size W6 w') ∧ (pointP c = true → Calls Tryd.prog 11 #[.slice (some ⟨W6.heap.size, 0, none⟩) 1 1] (W6.alloc (.cells #[.slice p6 k6 c6] 25)) fun e w' => ∃ q' c', e = .returned (.tuple #[.slice q' 3 c', .int .i64 0]) ∧ Is w' q' [120, c, 121] ∧ Below W6.heap.size W6 w') := fun W5 h5 => by
        obtain ⟨p6, k6, c6, W6, hr6, ho6, hb6⟩ := ap1 (hB4 W5 h5) (Nat.le_trans hB h5.size) (by omega) 121
        have hbw : Below w.heap.size w W6 := (hb.trans (h5.mono hb.size)).trans (hb6.mono (Nat.le_trans hb1.size (by simp)))
        obtain ⟨hI6, hk6, hl6, hm6⟩ := is_of_row ho6
        have RR := Read_oneS p6 (([120, 92, 120] ++ hexL true 2 (c)) ++ [121]) k6 c6 W6 hk6 hI6 hl6 hm6 (by rw [List.length_append, hL]; decide) (hT.on hbw)
        exact ⟨p6, k6, c6, W6, hr6, hbw, fun hp => RR.1 4 (EW.2 hp) (by decide), fun hp => RR.2 [120, c, 121] (EW.1 hp).1 (EW.1 hp).2⟩
      clear EW hB4 hS hL hI ho h0 hTr
      by_cases hp : pointP c = true
      · have hpd := hp
        unfold pointP at hpd
        simp only [decide_eq_true_eq] at hpd
        obtain ⟨d0, d1, d2⟩ := hpd
        have n1 : ¬ 1114111 < c := by omega
        have SI := fun q7 c7 (W : World) h1 h2 => sameS q7 (some ⟨W.heap.size, 0, none⟩) [120, c, 121] 3 3 c7 3 (W.alloc (.cells #[.int .i64 120, .int .i64 c, .int .i64 121] 3)) (by simp) rfl rfl h1 h2
        by_cases d3 : 55296 ≤ c
        · exact absurd d3 (by omega)
        · clear d2 d1 d0
          go_wp2_with (first | (go_at_call 11; refine RD1.mono ?_; rintro e W5 ⟨rfl, hb5⟩; obtain ⟨p6, k6, c6, W6, hr6, hb6, -, RD2'⟩ := CH W5 hb5; have RD2 := RD2' hp; clear RD1 CH RD2') | (at_builtin; refine wpList_append_run (u := .slice va 5 vc) (y := .slice (some ⟨W5.heap.size, 0, none⟩) 1 1) rfl _ _ 25 rfl rfl rfl hr6 ?_; clear hr6) | (go_at_call 11; refine RD2.mono ?_; rintro e W7 ⟨q7, c7, rfl, hI7, hb7⟩; clear RD2) | (go_at_call 13; refine (num_any _ _).mono ?_; rintro e W30 ⟨rfl, rfl⟩))
          refine (SI _ _ _ (hI7.alloc _) (is_lit3 _ _ _ _)).mono ?_
          rintro e W8 ⟨rfl, m8, rfl⟩
          go_wp2
          go_ret
          exact ⟨rfl, belowN ((hb6.trans (hb7.mono hb6.size)).alloc (Nat.le_trans hb6.size hb7.size) _) _⟩
      · have hp' : pointP c = false := by simpa using hp
        have hpd : 1114111 < c ∨ (¬ 1114111 < c ∧ 55296 ≤ c ∧ c ≤ 57343) := by
          unfold pointP at hp
          simp only [decide_eq_true_eq] at hp
          omega
        clear hp
        rcases hpd with n1 | ⟨n1, d3, d4⟩
        · exact absurd n1 (by omega)
        · exact absurd d3 (by omega)
end Go.Proofs.YtpiefdpcinjkpaaDoor
