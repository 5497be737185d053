/- FoldWords' walk, with blanks around the words. -/
import Derived.Test.YtjidbgdblgchlaaWds
set_option linter.unusedVariables false
set_option linter.unusedSimpArgs false
namespace Go.Proofs.Ytjidbgdblgchlaa
open Go.RowKit Go.Shelf

set_option maxRecDepth 100000 in
set_option maxHeartbeats 8000000 in
theorem words_blank (n g : Nat) (qa qg : Option Addr) (ws gs : List Int) (ca cg : Nat) (w : World) (HN : Hid (ws.length = n)) (HG : Hid (gs.length = g)) (hn1 : 1 ≤ n) (hn2 : n ≤ 20) (hng : n ≤ g) (hm : g ≤ maxLen) (hIa : Is w qa ws) (hIg : Is w qg gs) :
    Calls Try.prog 7 #[.slice qa n ca, .slice qg g cg, .bool true] w fun e w' => e = .returned (.bool true) ∧ Below w.heap.size w w' := by
  have hm' : (g : Int) ≤ 9223372036854775807 := by unfold maxLen at hm; omega
  have e1 : ¬ (n : Int) < 1 := by omega
  have e2 : ¬ (20 : Int) < n := by omega
  have e3 : ¬ (g : Int) < n := by omega
  have f1 : decide ((n : Int) < 1) = false := decide_eq_false e1
  have f2 : decide ((20 : Int) < n) = false := decide_eq_false e2
  have f3 : decide (g < n) = false := decide_eq_false (by omega)
  go_enter Try.func7, Try.ntmps7
  go_wp2_with (first | (go_at_call 9; refine (alive_any _).mono ?_; rintro e W ⟨rfl, hB⟩))
  go_loopw [8, 9, 10, 11] (fun vl vb vw i wr => ∃ (k : Nat) (Rl Rb : List Row) (T : List Int), k ≤ n ∧ i = .int .i64 k ∧ Hid (WdI n k Rl Rb T) ∧ Bld w wr vl vb vw Rl Rb T) (fun _ _ _ i _ => n - (intOf i).toNat)
  case atStart => exact ⟨0, [], [], [], Nat.zero_le _, rfl, ⟨rfl, rfl, by simp, by simp, (fun _ => ⟨rfl, rfl⟩), (fun h => by omega), (fun j hj => by simp at hj), fun r hr => by rcases hr with hr | hr <;> cases hr⟩, ⟨World.ownsRow_nil _ _ 26 1, World.ownsRow_nil _ _ 26 1, World.ownsRow_nil _ _ 3 1, (fun g e => by cases e), (fun r hr => by rcases hr with hr | hr <;> cases hr), hB⟩⟩
  case round =>
    obtain ⟨k, Rl, Rb, T, hk, rfl, HS, B⟩ := hrel
    obtain ⟨wo, rfl⟩ : ∃ wo, wo = wr := ⟨_, rfl⟩
    have hRb : Rb.length ≤ 80 := by have := HS.out.2.2.1; omega
    have hRl : Rl.length ≤ 80 := by have := HS.out.1; omega
    have hTl : T.length ≤ 80 := by have := HS.out.2.2.2.1; omega
    obtain ⟨a1, a2, a3, hvl⟩ := ownsRow_form B.l
    obtain ⟨s1, s2, s3, hvb⟩ := ownsRow_form B.b
    obtain ⟨d1, d2, d3, hvw⟩ := ownsRow_form B.t
    subst hvl hvb hvw
    by_cases hlt : k < n
    · have hli : (k : Int) < n := by omega
      have hkg : (k : Int) < g := by omega
      obtain ⟨ba, oa, rfl, hac⟩ := hIa.at (by have := HN.out; omega)
      obtain ⟨bg, og, rfl, hgc⟩ := hIg.at (by have := HG.out; omega)
      have ca0 := hac k (by have := HN.out; omega)
      have cg0 := hgc k (by have := HG.out; omega)
      have caW := (B.below.cell (p := ⟨ba, oa + k, none⟩) (World.block_lt_of_cell? w _ ca0)).trans ca0
      have cgA : ∀ o, (wo.alloc o).cell? ⟨bg, og + k, none⟩ = some (.int .i64 (iAt gs k)) := fun o => ((B.alloc o).below.cell (p := ⟨bg, og + k, none⟩) (World.block_lt_of_cell? w _ cg0)).trans cg0
      have hA : bits .and .i64 (iAt gs k) 3 = (((iAt gs k % 4).toNat : Nat) : Int) := by rw [i64_and3]; omega
      have hm3 : (iAt gs k % 4).toNat ≤ 3 := by omega
      have hA15 : bits .and .i64 (iAt ws k) 15 = (((iAt ws k % 16).toNat : Nat) : Int) := by rw [i64_and15]; omega
      have hc0 : (iAt ws k % 16).toNat ≤ 15 := by omega
      generalize (iAt gs k % 4).toNat = m at hA hm3
      generalize (iAt ws k % 16).toNat = c0 at hA15 hc0
      generalize iAt gs k = y at cgA hA
      generalize iAt ws k = x at caW hA15
      clear hgc cg0 hac ca0
      have hrr : RR (wo.alloc (.cells #[.int .i64 (97 + (c0 : Int))] 3)) (⟨some ⟨wo.heap.size, 0, none⟩, [97 + (c0 : Int)], 1⟩ : Row) (.slice a1 a2 a3) (.slice s1 s2 s3) (.slice d1 d2 d3) := newR_ok B [97 + (c0 : Int)] (by simp)
      have BA : Bld w (wo.alloc (.cells #[.int .i64 (97 + (c0 : Int))] 3)) (.slice a1 a2 a3) (.slice s1 s2 s3) (.slice d1 d2 d3) Rl Rb T := B.alloc _
      clear B
      by_cases hk0 : 0 < k
      · have hk0' : (0 : Int) < k := by omega
        by_cases hlast : k + 1 = n
        · have hl1 : ¬ (k : Int) + 1 < n := by omega
          go_wp2
          go_loopw [8, 9, 10, 14] (fun vl vb vw j wx => ∃ (i : Nat), i ≤ m ∧ j = .int .i64 i ∧ Bld w wx vl vb vw (Rl ++ List.replicate i nilR) (Rb ++ List.replicate i nilR) (T ++ List.replicate i 10) ∧ RR wx (⟨some ⟨wo.heap.size, 0, none⟩, [97 + (c0 : Int)], 1⟩ : Row) vl vb vw) (fun _ _ _ j _ => m - (intOf j).toNat)
          case atStart => exact ⟨0, Nat.zero_le _, rfl, (by simpa using BA), hrr⟩
          case round =>
            clear hrr BA
            obtain ⟨i, him, rfl, BX, hrx⟩ := hrel
            obtain ⟨x1, x2, x3, hxl⟩ := ownsRow_form BX.l
            obtain ⟨z1, z2, z3, hzb⟩ := ownsRow_form BX.b
            obtain ⟨y1, y2, y3, hyw⟩ := ownsRow_form BX.t
            subst hxl hzb hyw
            by_cases hil : i < m
            · have hil' : (i : Int) < m := by omega
              obtain ⟨g2, n2, c2, W2, hr2, B2, k2, -⟩ := BX.pushL (by simp; omega) nilR (nilR_ok _ _ _ _)
              have rok2 := k2 (⟨some ⟨wo.heap.size, 0, none⟩, [97 + (c0 : Int)], 1⟩ : Row) hrx.1 hrx.2.1
              obtain ⟨g3, n3, c3, W3, hr3, B3', k3, -⟩ := B2.swap.pushL (by simp; omega) nilR (nilR_ok _ _ _ _)
              have rok3 := k3 (⟨some ⟨wo.heap.size, 0, none⟩, [97 + (c0 : Int)], 1⟩ : Row) rok2.1 hrx.2.2.1
              have B3 := B3'.swap
              obtain ⟨g4, n4, c4, W4, hr4, B4, k4⟩ := B3.push1 (by simp; omega) 10
              have rok4 := k4 (⟨some ⟨wo.heap.size, 0, none⟩, [97 + (c0 : Int)], 1⟩ : Row) rok3.1 hrx.2.2.2
              rw [show rowV nilR = .slice none 0 0 from rfl] at hr2 hr3
              have B4' : Bld w W4 (.slice (some ⟨g2, 0, none⟩) n2 c2) (.slice (some ⟨g3, 0, none⟩) n3 c3) (.slice (some ⟨g4, 0, none⟩) n4 c4) (Rl ++ List.replicate (i + 1) nilR) (Rb ++ List.replicate (i + 1) nilR) (T ++ List.replicate (i + 1) 10) := (by rw [rep_snoc, rep_snoc, rep_snoc]; exact B4)
              clear B2 B3 B3' B4 k2 k3 k4
              go_wp2_with (first | (at_builtin; refine wpList_append_run (u := .slice x1 x2 x3) (y := .slice (some ⟨wr.heap.size, 0, none⟩) 1 1) rfl _ _ 22 rfl rfl rfl hr2 ?_; clear hr2) | (at_builtin; refine wpList_append_run (u := .slice z1 z2 z3) (y := .slice (some ⟨W2.heap.size, 0, none⟩) 1 1) rfl _ _ 22 rfl rfl rfl hr3 ?_; clear hr3) | (at_builtin; refine wpList_append_run (u := .slice y1 y2 y3) (y := .slice (some ⟨W3.heap.size, 0, none⟩) 1 1) rfl _ _ 26 rfl rfl rfl hr4 ?_; clear hr4))
              go_roundw
              case rel => exact ⟨i + 1, by omega, by go_num, B4', rok4.1, rok2.2, rok3.2, rok4.2⟩
              case measure => simp [intOf]; omega
            · have hime : m = i := by omega
              subst hime
              by_cases hm0 : m = 0
              · subst hm0
                obtain ⟨g5, n5, c5, W5, hr5, B5, k5⟩ := BX.push1 (by simp; omega) 32
                have rok5 := k5 (⟨some ⟨wo.heap.size, 0, none⟩, [97 + (c0 : Int)], 1⟩ : Row) hrx.1 hrx.2.2.2
                have hr5x : RR W5 (⟨some ⟨wo.heap.size, 0, none⟩, [97 + (c0 : Int)], 1⟩ : Row) (.slice x1 x2 x3) (.slice z1 z2 z3) (.slice (some ⟨g5, 0, none⟩) n5 c5) := ⟨rok5.1, hrx.2.1, hrx.2.2.1, rok5.2⟩
                clear k5
                obtain ⟨gt, nt, ct, Wt, ht1, Bt, kt, -⟩ := B5.pushT (u := [97 + (c0 : Int)]) (q := some ⟨wo.heap.size, 0, none⟩) 1 (by simp <;> omega) (by simp) hr5x.1.2.2
                have rt := kt (⟨some ⟨wo.heap.size, 0, none⟩, [97 + (c0 : Int)], 1⟩ : Row) hr5x.1 hr5x.2.2.2
                obtain ⟨gb, nb, cb, Wb, hb1, Bb', kb, -⟩ := Bt.swap.pushL (by simp <;> omega) (⟨some ⟨wo.heap.size, 0, none⟩, [97 + (c0 : Int)], 1⟩ : Row) ⟨rt.1, hr5x.2.2.1, hr5x.2.1, rt.2⟩
                have rb := kb (⟨some ⟨wo.heap.size, 0, none⟩, [97 + (c0 : Int)], 1⟩ : Row) rt.1 hr5x.2.2.1
                have Bb := Bb'.swap
                clear Bb' kb kt Bt
                obtain ⟨ga, ca1, Wa, ha1, oa, ba1, la⟩ := ahead Wb wo.heap.size (97 + (c0 : Int)) rb.1.2.2
                have rl := (rok_owns oa).1
                have Bf := Bb.on ba1
                have Of := fresh_off Bb la [32, 9, 97 + (c0 : Int)] ca1
                obtain ⟨gl, nl, cl, Wl, hl1, Bl, -, -⟩ := Bf.pushL (by simp <;> omega) ⟨some ⟨ga, 0, none⟩, [32, 9, 97 + (c0 : Int)], ca1⟩ ⟨rl, Of.1, Of.2.1, Of.2.2⟩
                have HST : Hid (WdI n (k + 1) _ _ _) := WdI_step (TT := (T ++ List.replicate 0 10) ++ [32]) (pre := [32, 9]) (post := []) (rl := ⟨some ⟨ga, 0, none⟩, [32, 9, 97 + (c0 : Int)], ca1⟩) (rb := (⟨some ⟨wo.heap.size, 0, none⟩, [97 + (c0 : Int)], 1⟩ : Row)) HS.out hk0 hm3 (by simp [sepI]) (letter c0 hc0) rfl rfl AB_329 AB_nil (by simp) (fun _ => rfl)
                rw [show rowV (⟨some ⟨wo.heap.size, 0, none⟩, [97 + (c0 : Int)], 1⟩ : Row) = .slice (some ⟨wo.heap.size, 0, none⟩) 1 1 from rfl] at hb1
                rw [show rowV ⟨some ⟨ga, 0, none⟩, [32, 9, 97 + (c0 : Int)], ca1⟩ = .slice (some ⟨ga, 0, none⟩) 3 ca1 from rfl] at hl1
                clear rt rb Bf Bb
                go_wp2_with (first | (at_builtin; refine wpList_append_run (u := .slice y1 y2 y3) (y := .slice (some ⟨wr.heap.size, 0, none⟩) 1 1) rfl _ _ 26 rfl rfl rfl hr5 ?_; clear hr5) | (at_builtin; refine wpList_append_run (u := .slice (some ⟨g5, 0, none⟩) n5 c5) (y := .slice (some ⟨wo.heap.size, 0, none⟩) 1 1) rfl _ _ 26 rfl rfl rfl ht1 ?_; clear ht1) | (at_builtin; refine wpList_append_run (u := .slice z1 z2 z3) (y := .slice (some ⟨Wt.heap.size, 0, none⟩) 1 1) rfl _ _ 22 rfl rfl rfl hb1 ?_; clear hb1) | (at_builtin; refine wpList_append_run (u := .slice (some ⟨Wb.heap.size, 0, none⟩) 2 2) (y := .slice (some ⟨wo.heap.size, 0, none⟩) 1 1) rfl _ _ 26 rfl rfl rfl ha1 ?_; clear ha1) | (at_builtin; refine wpList_append_run (u := .slice x1 x2 x3) (y := .slice (some ⟨Wa.heap.size, 0, none⟩) 1 1) rfl _ _ 22 rfl rfl rfl hl1 ?_; clear hl1))
                go_roundw
                case rel => exact ⟨k + 1, _, _, _, by omega, by go_num, HST, Bl⟩
                case measure => simp [intOf]; omega
              · have hm0' : ¬ (m : Int) = 0 := by omega
                have hm0b : ((m : Int) == 0) = false := by simpa using hm0'
                obtain ⟨gt, nt, ct, Wt, ht1, Bt, kt, -⟩ := BX.pushT (u := [97 + (c0 : Int)]) (q := some ⟨wo.heap.size, 0, none⟩) 1 (by simp <;> omega) (by simp) hrx.1.2.2
                have rt := kt (⟨some ⟨wo.heap.size, 0, none⟩, [97 + (c0 : Int)], 1⟩ : Row) hrx.1 hrx.2.2.2
                obtain ⟨gb, nb, cb, Wb, hb1, Bb', kb, -⟩ := Bt.swap.pushL (by simp <;> omega) (⟨some ⟨wo.heap.size, 0, none⟩, [97 + (c0 : Int)], 1⟩ : Row) ⟨rt.1, hrx.2.2.1, hrx.2.1, rt.2⟩
                have rb := kb (⟨some ⟨wo.heap.size, 0, none⟩, [97 + (c0 : Int)], 1⟩ : Row) rt.1 hrx.2.2.1
                have Bb := Bb'.swap
                clear Bb' kb kt Bt
                obtain ⟨ga, ca1, Wa, ha1, oa, ba1, la⟩ := ahead Wb wo.heap.size (97 + (c0 : Int)) rb.1.2.2
                have rl := (rok_owns oa).1
                have Bf := Bb.on ba1
                have Of := fresh_off Bb la [32, 9, 97 + (c0 : Int)] ca1
                obtain ⟨gl, nl, cl, Wl, hl1, Bl, -, -⟩ := Bf.pushL (by simp <;> omega) ⟨some ⟨ga, 0, none⟩, [32, 9, 97 + (c0 : Int)], ca1⟩ ⟨rl, Of.1, Of.2.1, Of.2.2⟩
                have HST : Hid (WdI n (k + 1) _ _ _) := WdI_step (TT := T ++ List.replicate m 10) (pre := [32, 9]) (post := []) (rl := ⟨some ⟨ga, 0, none⟩, [32, 9, 97 + (c0 : Int)], ca1⟩) (rb := (⟨some ⟨wo.heap.size, 0, none⟩, [97 + (c0 : Int)], 1⟩ : Row)) HS.out hk0 hm3 (by unfold sepI; rw [if_neg hm0', Int.toNat_natCast]) (letter c0 hc0) rfl rfl AB_329 AB_nil (by simp) (fun _ => rfl)
                rw [show rowV (⟨some ⟨wo.heap.size, 0, none⟩, [97 + (c0 : Int)], 1⟩ : Row) = .slice (some ⟨wo.heap.size, 0, none⟩) 1 1 from rfl] at hb1
                rw [show rowV ⟨some ⟨ga, 0, none⟩, [32, 9, 97 + (c0 : Int)], ca1⟩ = .slice (some ⟨ga, 0, none⟩) 3 ca1 from rfl] at hl1
                clear rt rb Bf Bb
                go_wp2_with (first | (at_builtin; refine wpList_append_run (u := .slice y1 y2 y3) (y := .slice (some ⟨wo.heap.size, 0, none⟩) 1 1) rfl _ _ 26 rfl rfl rfl ht1 ?_; clear ht1) | (at_builtin; refine wpList_append_run (u := .slice z1 z2 z3) (y := .slice (some ⟨Wt.heap.size, 0, none⟩) 1 1) rfl _ _ 22 rfl rfl rfl hb1 ?_; clear hb1) | (at_builtin; refine wpList_append_run (u := .slice (some ⟨Wb.heap.size, 0, none⟩) 2 2) (y := .slice (some ⟨wo.heap.size, 0, none⟩) 1 1) rfl _ _ 26 rfl rfl rfl ha1 ?_; clear ha1) | (at_builtin; refine wpList_append_run (u := .slice x1 x2 x3) (y := .slice (some ⟨Wa.heap.size, 0, none⟩) 1 1) rfl _ _ 22 rfl rfl rfl hl1 ?_; clear hl1))
                go_roundw
                case rel => exact ⟨k + 1, _, _, _, by omega, by go_num, HST, Bl⟩
                case measure => simp [intOf]; omega
        · have hl1 : (k : Int) + 1 < n := by omega
          go_wp2
          go_loopw [8, 9, 10, 14] (fun vl vb vw j wx => ∃ (i : Nat), i ≤ m ∧ j = .int .i64 i ∧ Bld w wx vl vb vw (Rl ++ List.replicate i nilR) (Rb ++ List.replicate i nilR) (T ++ List.replicate i 10) ∧ RR wx (⟨some ⟨wo.heap.size, 0, none⟩, [97 + (c0 : Int)], 1⟩ : Row) vl vb vw) (fun _ _ _ j _ => m - (intOf j).toNat)
          case atStart => exact ⟨0, Nat.zero_le _, rfl, (by simpa using BA), hrr⟩
          case round =>
            clear hrr BA
            obtain ⟨i, him, rfl, BX, hrx⟩ := hrel
            obtain ⟨x1, x2, x3, hxl⟩ := ownsRow_form BX.l
            obtain ⟨z1, z2, z3, hzb⟩ := ownsRow_form BX.b
            obtain ⟨y1, y2, y3, hyw⟩ := ownsRow_form BX.t
            subst hxl hzb hyw
            by_cases hil : i < m
            · have hil' : (i : Int) < m := by omega
              obtain ⟨g2, n2, c2, W2, hr2, B2, k2, -⟩ := BX.pushL (by simp; omega) nilR (nilR_ok _ _ _ _)
              have rok2 := k2 (⟨some ⟨wo.heap.size, 0, none⟩, [97 + (c0 : Int)], 1⟩ : Row) hrx.1 hrx.2.1
              obtain ⟨g3, n3, c3, W3, hr3, B3', k3, -⟩ := B2.swap.pushL (by simp; omega) nilR (nilR_ok _ _ _ _)
              have rok3 := k3 (⟨some ⟨wo.heap.size, 0, none⟩, [97 + (c0 : Int)], 1⟩ : Row) rok2.1 hrx.2.2.1
              have B3 := B3'.swap
              obtain ⟨g4, n4, c4, W4, hr4, B4, k4⟩ := B3.push1 (by simp; omega) 10
              have rok4 := k4 (⟨some ⟨wo.heap.size, 0, none⟩, [97 + (c0 : Int)], 1⟩ : Row) rok3.1 hrx.2.2.2
              rw [show rowV nilR = .slice none 0 0 from rfl] at hr2 hr3
              have B4' : Bld w W4 (.slice (some ⟨g2, 0, none⟩) n2 c2) (.slice (some ⟨g3, 0, none⟩) n3 c3) (.slice (some ⟨g4, 0, none⟩) n4 c4) (Rl ++ List.replicate (i + 1) nilR) (Rb ++ List.replicate (i + 1) nilR) (T ++ List.replicate (i + 1) 10) := (by rw [rep_snoc, rep_snoc, rep_snoc]; exact B4)
              clear B2 B3 B3' B4 k2 k3 k4
              go_wp2_with (first | (at_builtin; refine wpList_append_run (u := .slice x1 x2 x3) (y := .slice (some ⟨wr.heap.size, 0, none⟩) 1 1) rfl _ _ 22 rfl rfl rfl hr2 ?_; clear hr2) | (at_builtin; refine wpList_append_run (u := .slice z1 z2 z3) (y := .slice (some ⟨W2.heap.size, 0, none⟩) 1 1) rfl _ _ 22 rfl rfl rfl hr3 ?_; clear hr3) | (at_builtin; refine wpList_append_run (u := .slice y1 y2 y3) (y := .slice (some ⟨W3.heap.size, 0, none⟩) 1 1) rfl _ _ 26 rfl rfl rfl hr4 ?_; clear hr4))
              go_roundw
              case rel => exact ⟨i + 1, by omega, by go_num, B4', rok4.1, rok2.2, rok3.2, rok4.2⟩
              case measure => simp [intOf]; omega
            · have hime : m = i := by omega
              subst hime
              by_cases hm0 : m = 0
              · subst hm0
                obtain ⟨g5, n5, c5, W5, hr5, B5, k5⟩ := BX.push1 (by simp; omega) 32
                have rok5 := k5 (⟨some ⟨wo.heap.size, 0, none⟩, [97 + (c0 : Int)], 1⟩ : Row) hrx.1 hrx.2.2.2
                have hr5x : RR W5 (⟨some ⟨wo.heap.size, 0, none⟩, [97 + (c0 : Int)], 1⟩ : Row) (.slice x1 x2 x3) (.slice z1 z2 z3) (.slice (some ⟨g5, 0, none⟩) n5 c5) := ⟨rok5.1, hrx.2.1, hrx.2.2.1, rok5.2⟩
                clear k5
                obtain ⟨gt, nt, ct, Wt, ht1, Bt, kt, -⟩ := B5.pushT (u := [97 + (c0 : Int)]) (q := some ⟨wo.heap.size, 0, none⟩) 1 (by simp <;> omega) (by simp) hr5x.1.2.2
                have rt := kt (⟨some ⟨wo.heap.size, 0, none⟩, [97 + (c0 : Int)], 1⟩ : Row) hr5x.1 hr5x.2.2.2
                obtain ⟨gb, nb, cb, Wb, hb1, Bb', kb, -⟩ := Bt.swap.pushL (by simp <;> omega) (⟨some ⟨wo.heap.size, 0, none⟩, [97 + (c0 : Int)], 1⟩ : Row) ⟨rt.1, hr5x.2.2.1, hr5x.2.1, rt.2⟩
                have rb := kb (⟨some ⟨wo.heap.size, 0, none⟩, [97 + (c0 : Int)], 1⟩ : Row) rt.1 hr5x.2.2.1
                have Bb := Bb'.swap
                clear Bb' kb kt Bt
                obtain ⟨ga, ca1, Wa, ha1, oa, ba1, la⟩ := ahead Wb wo.heap.size (97 + (c0 : Int)) rb.1.2.2
                obtain ⟨ge, ce, We, he1, oe, be1, le⟩ := push1 oa ba1.size (by simp) 32
                have hbe : Below Wb.heap.size Wa We := ((Below.refl _ Wa).alloc ba1.size _).trans (owns_below (oa.alloc _) be1 (Nat.le_refl _) (by have := ba1.size; simp; omega))
                have lge : Wb.heap.size ≤ ge := newer le la ba1.size
                have rl := (rok_owns oe).1
                have Bf := Bb.on (ba1.trans hbe)
                have Of := fresh_off Bb lge ([32, 9, 97 + (c0 : Int)] ++ [32]) ce
                obtain ⟨gl, nl, cl, Wl, hl1, Bl, -, -⟩ := Bf.pushL (by simp <;> omega) ⟨some ⟨ge, 0, none⟩, ([32, 9, 97 + (c0 : Int)] ++ [32]), ce⟩ ⟨rl, Of.1, Of.2.1, Of.2.2⟩
                have HST : Hid (WdI n (k + 1) _ _ _) := WdI_step (TT := (T ++ List.replicate 0 10) ++ [32]) (pre := [32, 9]) (post := [32]) (rl := ⟨some ⟨ge, 0, none⟩, ([32, 9, 97 + (c0 : Int)] ++ [32]), ce⟩) (rb := (⟨some ⟨wo.heap.size, 0, none⟩, [97 + (c0 : Int)], 1⟩ : Row)) HS.out hk0 hm3 (by simp [sepI]) (letter c0 hc0) rfl rfl AB_329 AB_32 (by simp) (fun h => by omega)
                rw [show rowV (⟨some ⟨wo.heap.size, 0, none⟩, [97 + (c0 : Int)], 1⟩ : Row) = .slice (some ⟨wo.heap.size, 0, none⟩) 1 1 from rfl] at hb1
                rw [show rowV ⟨some ⟨ge, 0, none⟩, ([32, 9, 97 + (c0 : Int)] ++ [32]), ce⟩ = .slice (some ⟨ge, 0, none⟩) 4 ce from rfl] at hl1
                clear rt rb Bf Bb
                go_wp2_with (first | (at_builtin; refine wpList_append_run (u := .slice y1 y2 y3) (y := .slice (some ⟨wr.heap.size, 0, none⟩) 1 1) rfl _ _ 26 rfl rfl rfl hr5 ?_; clear hr5) | (at_builtin; refine wpList_append_run (u := .slice (some ⟨g5, 0, none⟩) n5 c5) (y := .slice (some ⟨wo.heap.size, 0, none⟩) 1 1) rfl _ _ 26 rfl rfl rfl ht1 ?_; clear ht1) | (at_builtin; refine wpList_append_run (u := .slice z1 z2 z3) (y := .slice (some ⟨Wt.heap.size, 0, none⟩) 1 1) rfl _ _ 22 rfl rfl rfl hb1 ?_; clear hb1) | (at_builtin; refine wpList_append_run (u := .slice (some ⟨Wb.heap.size, 0, none⟩) 2 2) (y := .slice (some ⟨wo.heap.size, 0, none⟩) 1 1) rfl _ _ 26 rfl rfl rfl ha1 ?_; clear ha1) | (at_builtin; refine wpList_append_run (u := .slice (some ⟨ga, 0, none⟩) 3 ca1) (y := .slice (some ⟨Wa.heap.size, 0, none⟩) 1 1) rfl _ _ 26 rfl rfl rfl he1 ?_; clear he1) | (at_builtin; refine wpList_append_run (u := .slice x1 x2 x3) (y := .slice (some ⟨We.heap.size, 0, none⟩) 1 1) rfl _ _ 22 rfl rfl rfl hl1 ?_; clear hl1))
                go_roundw
                case rel => exact ⟨k + 1, _, _, _, by omega, by go_num, HST, Bl⟩
                case measure => simp [intOf]; omega
              · have hm0' : ¬ (m : Int) = 0 := by omega
                have hm0b : ((m : Int) == 0) = false := by simpa using hm0'
                obtain ⟨gt, nt, ct, Wt, ht1, Bt, kt, -⟩ := BX.pushT (u := [97 + (c0 : Int)]) (q := some ⟨wo.heap.size, 0, none⟩) 1 (by simp <;> omega) (by simp) hrx.1.2.2
                have rt := kt (⟨some ⟨wo.heap.size, 0, none⟩, [97 + (c0 : Int)], 1⟩ : Row) hrx.1 hrx.2.2.2
                obtain ⟨gb, nb, cb, Wb, hb1, Bb', kb, -⟩ := Bt.swap.pushL (by simp <;> omega) (⟨some ⟨wo.heap.size, 0, none⟩, [97 + (c0 : Int)], 1⟩ : Row) ⟨rt.1, hrx.2.2.1, hrx.2.1, rt.2⟩
                have rb := kb (⟨some ⟨wo.heap.size, 0, none⟩, [97 + (c0 : Int)], 1⟩ : Row) rt.1 hrx.2.2.1
                have Bb := Bb'.swap
                clear Bb' kb kt Bt
                obtain ⟨ga, ca1, Wa, ha1, oa, ba1, la⟩ := ahead Wb wo.heap.size (97 + (c0 : Int)) rb.1.2.2
                obtain ⟨ge, ce, We, he1, oe, be1, le⟩ := push1 oa ba1.size (by simp) 32
                have hbe : Below Wb.heap.size Wa We := ((Below.refl _ Wa).alloc ba1.size _).trans (owns_below (oa.alloc _) be1 (Nat.le_refl _) (by have := ba1.size; simp; omega))
                have lge : Wb.heap.size ≤ ge := newer le la ba1.size
                have rl := (rok_owns oe).1
                have Bf := Bb.on (ba1.trans hbe)
                have Of := fresh_off Bb lge ([32, 9, 97 + (c0 : Int)] ++ [32]) ce
                obtain ⟨gl, nl, cl, Wl, hl1, Bl, -, -⟩ := Bf.pushL (by simp <;> omega) ⟨some ⟨ge, 0, none⟩, ([32, 9, 97 + (c0 : Int)] ++ [32]), ce⟩ ⟨rl, Of.1, Of.2.1, Of.2.2⟩
                have HST : Hid (WdI n (k + 1) _ _ _) := WdI_step (TT := T ++ List.replicate m 10) (pre := [32, 9]) (post := [32]) (rl := ⟨some ⟨ge, 0, none⟩, ([32, 9, 97 + (c0 : Int)] ++ [32]), ce⟩) (rb := (⟨some ⟨wo.heap.size, 0, none⟩, [97 + (c0 : Int)], 1⟩ : Row)) HS.out hk0 hm3 (by unfold sepI; rw [if_neg hm0', Int.toNat_natCast]) (letter c0 hc0) rfl rfl AB_329 AB_32 (by simp) (fun h => by omega)
                rw [show rowV (⟨some ⟨wo.heap.size, 0, none⟩, [97 + (c0 : Int)], 1⟩ : Row) = .slice (some ⟨wo.heap.size, 0, none⟩) 1 1 from rfl] at hb1
                rw [show rowV ⟨some ⟨ge, 0, none⟩, ([32, 9, 97 + (c0 : Int)] ++ [32]), ce⟩ = .slice (some ⟨ge, 0, none⟩) 4 ce from rfl] at hl1
                clear rt rb Bf Bb
                go_wp2_with (first | (at_builtin; refine wpList_append_run (u := .slice y1 y2 y3) (y := .slice (some ⟨wo.heap.size, 0, none⟩) 1 1) rfl _ _ 26 rfl rfl rfl ht1 ?_; clear ht1) | (at_builtin; refine wpList_append_run (u := .slice z1 z2 z3) (y := .slice (some ⟨Wt.heap.size, 0, none⟩) 1 1) rfl _ _ 22 rfl rfl rfl hb1 ?_; clear hb1) | (at_builtin; refine wpList_append_run (u := .slice (some ⟨Wb.heap.size, 0, none⟩) 2 2) (y := .slice (some ⟨wo.heap.size, 0, none⟩) 1 1) rfl _ _ 26 rfl rfl rfl ha1 ?_; clear ha1) | (at_builtin; refine wpList_append_run (u := .slice (some ⟨ga, 0, none⟩) 3 ca1) (y := .slice (some ⟨Wa.heap.size, 0, none⟩) 1 1) rfl _ _ 26 rfl rfl rfl he1 ?_; clear he1) | (at_builtin; refine wpList_append_run (u := .slice x1 x2 x3) (y := .slice (some ⟨We.heap.size, 0, none⟩) 1 1) rfl _ _ 22 rfl rfl rfl hl1 ?_; clear hl1))
                go_roundw
                case rel => exact ⟨k + 1, _, _, _, by omega, by go_num, HST, Bl⟩
                case measure => simp [intOf]; omega
      · obtain rfl : k = 0 := by omega
        obtain ⟨hr1, hr2⟩ := HS.out.2.2.2.2.1 rfl
        subst hr1 hr2
        obtain rfl : T = [] := List.eq_nil_of_length_eq_zero (by have := HS.out.2.2.2.1; omega)
        rw [Nat.add_zero] at cgA caW
        by_cases hlast : 0 + 1 = n
        · have hl1 : ¬ (1 : Int) < n := by omega
          obtain ⟨gt, nt, ct, Wt, ht1, Bt, kt, -⟩ := BA.pushT (u := [97 + (c0 : Int)]) (q := some ⟨wo.heap.size, 0, none⟩) 1 (by simp <;> omega) (by simp) hrr.1.2.2
          have rt := kt (⟨some ⟨wo.heap.size, 0, none⟩, [97 + (c0 : Int)], 1⟩ : Row) hrr.1 hrr.2.2.2
          obtain ⟨gb, nb, cb, Wb, hb1, Bb', kb, -⟩ := Bt.swap.pushL (by simp <;> omega) (⟨some ⟨wo.heap.size, 0, none⟩, [97 + (c0 : Int)], 1⟩ : Row) ⟨rt.1, hrr.2.2.1, hrr.2.1, rt.2⟩
          have rb := kb (⟨some ⟨wo.heap.size, 0, none⟩, [97 + (c0 : Int)], 1⟩ : Row) rt.1 hrr.2.2.1
          have Bb := Bb'.swap
          clear Bb' kb kt Bt
          have Bf := Bb
          obtain ⟨gl, nl, cl, Wl, hl1, Bl, -, -⟩ := Bf.pushL (by simp <;> omega) (⟨some ⟨wo.heap.size, 0, none⟩, [97 + (c0 : Int)], 1⟩ : Row) ⟨rb.1, hrr.2.1, rb.2, rt.2⟩
          have HST : Hid (WdI n (0 + 1) _ _ _) := WdI_zero (post := []) (rl := (⟨some ⟨wo.heap.size, 0, none⟩, [97 + (c0 : Int)], 1⟩ : Row)) (rb := (⟨some ⟨wo.heap.size, 0, none⟩, [97 + (c0 : Int)], 1⟩ : Row)) (letter c0 hc0) rfl rfl AB_nil (by simp) (fun _ => rfl)
          rw [show rowV (⟨some ⟨wo.heap.size, 0, none⟩, [97 + (c0 : Int)], 1⟩ : Row) = .slice (some ⟨wo.heap.size, 0, none⟩) 1 1 from rfl] at hb1
          rw [show rowV (⟨some ⟨wo.heap.size, 0, none⟩, [97 + (c0 : Int)], 1⟩ : Row) = .slice (some ⟨wo.heap.size, 0, none⟩) 1 1 from rfl] at hl1
          clear rt rb Bf Bb
          go_wp2_with (first | (at_builtin; refine wpList_append_run (u := .slice d1 d2 d3) (y := .slice (some ⟨wo.heap.size, 0, none⟩) 1 1) rfl _ _ 26 rfl rfl rfl ht1 ?_; clear ht1) | (at_builtin; refine wpList_append_run (u := .slice s1 s2 s3) (y := .slice (some ⟨Wt.heap.size, 0, none⟩) 1 1) rfl _ _ 22 rfl rfl rfl hb1 ?_; clear hb1) | (at_builtin; refine wpList_append_run (u := .slice a1 a2 a3) (y := .slice (some ⟨Wb.heap.size, 0, none⟩) 1 1) rfl _ _ 22 rfl rfl rfl hl1 ?_; clear hl1))
          go_roundw
          case rel => exact ⟨0 + 1, _, _, _, by omega, by go_num, HST, Bl⟩
          case measure => simp [intOf]; omega
        · have hl1 : (1 : Int) < n := by omega
          obtain ⟨gt, nt, ct, Wt, ht1, Bt, kt, -⟩ := BA.pushT (u := [97 + (c0 : Int)]) (q := some ⟨wo.heap.size, 0, none⟩) 1 (by simp <;> omega) (by simp) hrr.1.2.2
          have rt := kt (⟨some ⟨wo.heap.size, 0, none⟩, [97 + (c0 : Int)], 1⟩ : Row) hrr.1 hrr.2.2.2
          obtain ⟨gb, nb, cb, Wb, hb1, Bb', kb, -⟩ := Bt.swap.pushL (by simp <;> omega) (⟨some ⟨wo.heap.size, 0, none⟩, [97 + (c0 : Int)], 1⟩ : Row) ⟨rt.1, hrr.2.2.1, hrr.2.1, rt.2⟩
          have rb := kb (⟨some ⟨wo.heap.size, 0, none⟩, [97 + (c0 : Int)], 1⟩ : Row) rt.1 hrr.2.2.1
          have Bb := Bb'.swap
          clear Bb' kb kt Bt
          obtain ⟨ce, We, he1, rl, be1⟩ := behind Wb wo.heap.size (97 + (c0 : Int)) rb.1.2.2
          have Bf := Bb.on be1
          have Of := fresh_off Bb (Nat.le_succ Wb.heap.size) [97 + (c0 : Int), 32] ce
          obtain ⟨gl, nl, cl, Wl, hl1, Bl, -, -⟩ := Bf.pushL (by simp <;> omega) ⟨some ⟨Wb.heap.size + 1, 0, none⟩, [97 + (c0 : Int), 32], ce⟩ ⟨rl, Of.1, Of.2.1, Of.2.2⟩
          have HST : Hid (WdI n (0 + 1) _ _ _) := WdI_zero (post := [32]) (rl := ⟨some ⟨Wb.heap.size + 1, 0, none⟩, [97 + (c0 : Int), 32], ce⟩) (rb := (⟨some ⟨wo.heap.size, 0, none⟩, [97 + (c0 : Int)], 1⟩ : Row)) (letter c0 hc0) rfl rfl AB_32 (by simp) (fun h => by omega)
          rw [show rowV (⟨some ⟨wo.heap.size, 0, none⟩, [97 + (c0 : Int)], 1⟩ : Row) = .slice (some ⟨wo.heap.size, 0, none⟩) 1 1 from rfl] at hb1
          rw [show rowV ⟨some ⟨Wb.heap.size + 1, 0, none⟩, [97 + (c0 : Int), 32], ce⟩ = .slice (some ⟨Wb.heap.size + 1, 0, none⟩) 2 ce from rfl] at hl1
          clear rt rb Bf Bb
          go_wp2_with (first | (at_builtin; refine wpList_append_run (u := .slice d1 d2 d3) (y := .slice (some ⟨wo.heap.size, 0, none⟩) 1 1) rfl _ _ 26 rfl rfl rfl ht1 ?_; clear ht1) | (at_builtin; refine wpList_append_run (u := .slice s1 s2 s3) (y := .slice (some ⟨Wt.heap.size, 0, none⟩) 1 1) rfl _ _ 22 rfl rfl rfl hb1 ?_; clear hb1) | (at_builtin; refine wpList_append_run (u := .slice (some ⟨wo.heap.size, 0, none⟩) 1 1) (y := .slice (some ⟨Wb.heap.size, 0, none⟩) 1 1) rfl _ _ 26 rfl rfl rfl he1 ?_; clear he1) | (at_builtin; refine wpList_append_run (u := .slice a1 a2 a3) (y := .slice (some ⟨We.heap.size, 0, none⟩) 1 1) rfl _ _ 22 rfl rfl rfl hl1 ?_; clear hl1))
          go_roundw
          case rel => exact ⟨0 + 1, _, _, _, by omega, by go_num, HST, Bl⟩
          case measure => simp [intOf]; omega
    · obtain rfl : k = n := by omega
      obtain ⟨hw1, hw2, hw3, -⟩ := words_flow HS.out (by omega)
      have hSb : Sized Rb := sized_small (by omega) (fun r hr => by have := HS.out.2.2.2.2.2.2.2 r (.inr hr); omega)
      have hSl : Sized Rl := sized_small (by omega) (fun r hr => by have := HS.out.2.2.2.2.2.2.2 r (.inl hr); omega)
      obtain ⟨ql, cl, hql, hMl⟩ := B.l.read (fun r hr => (B.rows r (.inl hr)).1)
      obtain ⟨qb, cb, hqb, hMb⟩ := B.b.read (fun r hr => (B.rows r (.inr hr)).1)
      obtain ⟨qw, cw, hqw, hIw⟩ := B.t.read
      have hot := B.t
      rw [hqw] at hot
      rw [hql, hqb, hqw]
      have FL := Flow_any ql Rl cl wo hSl hMl
      have BK1 := fun W h => Block_any qb Rb cb 1 W hSb h
      have BK0 := fun W h => Block_any qb Rb cb 0 W hSb h
      rw [hw1] at FL
      rw [hw2] at BK1
      rw [hw3] at BK0
      obtain ⟨X, hX⟩ : ∃ X, T ++ [10] = X := ⟨_, rfl⟩
      have HX : Hid (T ++ [10] = X) := hX
      have hXl : X.length ≤ 100 := by rw [← hX]; simp; omega
      rw [hX] at BK0
      clear hX
      have SI := fun p q c d W => same_ints p q T c d W (by omega)
      have SJ := fun p q c d W => same_ints p q X c d W (by omega)
      have hBw := B.below
      clear hw1 hw2 hw3 hSb hSl HS B hql hqb hqw hMl
      have hsw := hBw.size
      go_wp2_with (first | (go_at_call 12; refine FL.mono ?_; clear FL; rintro e W2 ⟨v2, rfl, ho2, hb2⟩; obtain ⟨q2, c2, rfl, hI2⟩ := ho2.read; clear ho2) | (go_at_call 11; refine (SI _ _ _ _ _ hI2 (hIw.on hb2)).mono ?_; clear hI2; rintro e W3 ⟨rfl, m3, rfl⟩; have hb3 := belowN hb2 m3) | (go_at_call 16; refine (BK1 _ (hMb.on hb3)).mono ?_; clear BK1; rintro e W4 ⟨v4, rfl, ho4, hb4⟩; obtain ⟨q4, c4, rfl, hI4⟩ := ho4.read; have hb4w := hb3.trans (hb4.mono hb3.size); clear ho4) | (go_at_call 11; refine (SI _ _ _ _ _ hI4 (hIw.on hb4w)).mono ?_; clear hI4; rintro e W5 ⟨rfl, m5, rfl⟩; have hb5 := belowN hb4w m5) | (go_at_call 16; refine (BK0 _ (hMb.on hb5)).mono ?_; clear BK0; rintro e W6 ⟨v6, rfl, ho6, hb6⟩; have hb6w := hb5.trans (hb6.mono hb5.size); obtain ⟨v7, W7, hr7, ho7, ho67, hb7⟩ := want_more hot hsw hb6w ho6 hb5.size (by omega); rw [HX.out] at ho7; obtain ⟨q6, k6, c6, rfl⟩ := ownsRow_form ho67; obtain ⟨hI6, rfl, -, -⟩ := is_of_row ho67; obtain ⟨q7, k7, c7, rfl⟩ := ownsRow_form ho7; obtain ⟨hI7, rfl, -, -⟩ := is_of_row ho7; clear ho6 ho67 ho7) | (at_builtin; refine wpList_append_runW (u := .slice qw T.length cw) (y := .slice (some ⟨W6.heap.size, 0, none⟩) 1 1) rfl _ _ 26 rfl rfl rfl hr7 ?_; clear hr7) | (go_at_call 11; refine (SJ _ _ _ _ _ hI6 hI7).mono ?_; rintro e W8 ⟨rfl, m8, rfl⟩))
      go_ret
      exact ⟨rfl, belowN ((hBw.trans (hb6w.mono hsw)).trans hb7) _⟩
end Go.Proofs.Ytjidbgdblgchlaa
