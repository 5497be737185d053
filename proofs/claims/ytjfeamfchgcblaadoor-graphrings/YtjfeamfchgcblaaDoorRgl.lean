/- GraphRings, as it runs. -/
import Derived.Test.YtjfeamfchgcblaaDoorRgb
set_option linter.all false
set_option maxRecDepth 100000
namespace Go.Proofs.YtjfeamfchgcblaaDoor
open Go.RowKit Go.Shelf
attribute [local go_sem] Oper.semAt_some

set_option maxHeartbeats 8000000 in
theorem rings_law (n back : Int) (w : World) (hT : Tabs w) :
    Calls Tryd.prog 5 #[.int .i64 n, .int .i64 back] w fun e w' => e = .returned (.bool true) ∧ Below w.heap.size w w' := by
  have AL := alive_any w hT
  by_cases h0 : n < 1
  · go_enter Tryd.func5, Tryd.ntmps5
    go_wp2_with (first | (go_at_call 7; refine AL.mono ?_; clear AL; rintro e W1 ⟨rfl, hb1⟩))
    go_ret
    exact ⟨rfl, hb1⟩
  by_cases h1 : 50 < n
  · go_enter Tryd.func5, Tryd.ntmps5
    go_wp2_with (first | (go_at_call 7; refine AL.mono ?_; clear AL; rintro e W1 ⟨rfl, hb1⟩))
    go_ret
    exact ⟨rfl, hb1⟩
  by_cases h2 : back < 0
  · go_enter Tryd.func5, Tryd.ntmps5
    go_wp2_with (first | (go_at_call 7; refine AL.mono ?_; clear AL; rintro e W1 ⟨rfl, hb1⟩))
    go_ret
    exact ⟨rfl, hb1⟩
  by_cases h3 : n < back
  · go_enter Tryd.func5, Tryd.ntmps5
    go_wp2_with (first | (go_at_call 7; refine AL.mono ?_; clear AL; rintro e W1 ⟨rfl, hb1⟩))
    go_ret
    exact ⟨rfl, hb1⟩
  obtain ⟨N, rfl⟩ : ∃ N : Nat, n = N := ⟨n.toNat, by omega⟩
  obtain ⟨B, rfl⟩ : ∃ B : Nat, back = B := ⟨back.toNat, by omega⟩
  have q1 : decide ((N : Int) < 1) = false := decide_eq_false (by omega)
  have q2 : decide ((50 : Int) < N) = false := decide_eq_false (by omega)
  have q3 : decide ((B : Int) < 0) = false := decide_eq_false (by omega)
  have q4 : decide (N < B) = false := decide_eq_false (by omega)
  go_enter Tryd.func5, Tryd.ntmps5
  go_wp2_with (first | (go_at_call 7; refine AL.mono ?_; clear AL; rintro e W1 ⟨rfl, hb1⟩))
  clear q1 q2 q3 q4
  have R0 : RI w (W1.heap.size + 1 + 1) (W1.heap.size + 1) W1.heap.size N B [] (.slice none 0 0) ((W1.alloc (.cells #[.int .i64 0] 3)).alloc (.cells #[.slice none 0 0, .slice (some ⟨W1.heap.size, 0, none⟩) 1 1] 25)) := by
    have b1 := (Below.refl _ W1).alloc (Nat.le_refl _) (.cells #[.int .i64 0] 3)
    have s1 : (W1.alloc (.cells #[.int .i64 0] 3)).heap.size = W1.heap.size + 1 := by simp
    have e1 : (W1.alloc (.cells #[.int .i64 0] 3)).heap[W1.heap.size]? = some (.cells #[.int .i64 0] 3) := World.alloc_heap_new W1 _
    have e2 : ((W1.alloc (.cells #[.int .i64 0] 3)).alloc (.cells #[.slice none 0 0, .slice (some ⟨W1.heap.size, 0, none⟩) 1 1] 25)).heap[W1.heap.size + 1]? = some (.cells #[.slice none 0 0, .slice (some ⟨W1.heap.size, 0, none⟩) 1 1] 25) := by
      have := World.alloc_heap_new (W1.alloc (.cells #[.int .i64 0] 3)) (.cells #[.slice none 0 0, .slice (some ⟨W1.heap.size, 0, none⟩) 1 1] 25)
      rwa [s1] at this
    exact ⟨(hb1.alloc hb1.size _).alloc (by have := hb1.size; omega) _, by rw [World.size_alloc]; omega, e2, (Below.heap_alloc _ _ _ (by omega)).trans e1, ⟨rfl, .inl ⟨rfl, rfl⟩⟩, fun j hj => by simp at hj⟩
  have hs1 := hb1.size
  have hN1 : w.heap.size ≤ W1.heap.size + 1 + 1 := by omega
  have hN2 : w.heap.size ≤ W1.heap.size + 1 := by omega
  generalize (W1.alloc (.cells #[.int .i64 0] 3)).alloc (.cells #[.slice none 0 0, .slice (some ⟨W1.heap.size, 0, none⟩) 1 1] 25) = Wz at R0 ⊢
  generalize W1.heap.size + 1 + 1 = M at *
  generalize W1.heap.size + 1 = gb at *
  generalize W1.heap.size = rb at *
  have hN50 : (N : Int) ≤ 50 := by omega
  go_loopw [7] (fun ri wr => ∃ (G : List Gn) (v : Value), G.length ≤ N ∧ ri = .int .i64 (G.length : Nat) ∧ RI w M gb rb N B G v wr) (fun ri _ => N - (RowKit.intOf ri).toNat)
  case atStart => exact ⟨[], _, Nat.zero_le _, rfl, R0⟩
  case round =>
    clear R0
    obtain ⟨G, v, hi, rfl, hR⟩ := hrel
    by_cases hlt : G.length < N
    · have hlt' : (G.length : Int) < N := by omega
      by_cases hk1 : G.length + 1 < N
      · have hk1' : (G.length : Int) + 1 < N := by omega
        obtain ⟨W2, hW2⟩ : ∃ W2, (wr.alloc (.cells #[.int .i64 2, .string ⟨#[120]⟩, .string ⟨#[]⟩, .slice (some ⟨wr.heap.size + 1, 0, none⟩) 1 1, .bool false] 33)).alloc (.cells #[.int .i64 ((G.length : Int) + 1)] 3) = W2 := ⟨_, rfl⟩
        obtain ⟨c0, ⟨x0, x1, x2, x3, x4⟩, g, cap, W3, hrun, d0, d1, hR2⟩ := hR.step hN1 hN2 (by omega) (z := (G.length : Int) + 1) (by unfold rk; rw [if_pos hk1]; rfl) hW2
        clear hR
        go_wp2_with (first | rw [hW2] | (at_builtin; refine wpList_append_run rfl _ _ 22 rfl rfl rfl hrun ?_))
        go_roundw
        case rel => exact ⟨G ++ [rn N B G.length (some ⟨wr.heap.size + 1, 0, none⟩)], _, by rw [List.length_append]; exact hlt, by rw [List.length_append]; go_num, hR2⟩
        case measure => simp [RowKit.intOf]; omega
      · have hk1' : ¬ (G.length : Int) + 1 < N := by omega
        by_cases hk2 : B < N
        · have hk2' : (B : Int) < N := by omega
          obtain ⟨W2, hW2⟩ : ∃ W2, (wr.alloc (.cells #[.int .i64 2, .string ⟨#[120]⟩, .string ⟨#[]⟩, .slice (some ⟨wr.heap.size + 1, 0, none⟩) 1 1, .bool false] 33)).alloc (.cells #[.int .i64 (B : Int)] 3) = W2 := ⟨_, rfl⟩
          obtain ⟨c0, ⟨x0, x1, x2, x3, x4⟩, g, cap, W3, hrun, d0, d1, hR2⟩ := hR.step hN1 hN2 (by omega) (z := (B : Int)) (by unfold rk; rw [if_neg hk1, if_pos hk2]) hW2
          clear hR
          go_wp2_with (first | rw [hW2] | (at_builtin; refine wpList_append_run rfl _ _ 22 rfl rfl rfl hrun ?_))
          go_roundw
          case rel => exact ⟨G ++ [rn N B G.length (some ⟨wr.heap.size + 1, 0, none⟩)], _, by rw [List.length_append]; exact hlt, by rw [List.length_append]; go_num, hR2⟩
          case measure => simp [RowKit.intOf]; omega
        · have hk2' : ¬ (B : Int) < N := by omega
          have hk3 : decide (B < N) = false := decide_eq_false hk2
          obtain ⟨W2, hW2⟩ : ∃ W2, wr.alloc (.cells #[.int .i64 2, .string ⟨#[120]⟩, .string ⟨#[]⟩, .slice none 0 0, .bool false] 33) = W2 := ⟨_, rfl⟩
          obtain ⟨c0, ⟨x0, x1, x2, x3, x4⟩, g, cap, W3, hrun, d0, d1, hR2⟩ := hR.step0 hN1 hN2 (by omega) (by unfold rk; rw [if_neg hk1, if_neg hk2]) hW2
          have HW2 : Hid (_ = W2) := hW2
          clear hW2
          clear hR
          go_wp2_with (first | (refine (?_ : wpList Tryd.prog _ _ (Oper.mk (some 42) _ _ _ _ _ :: _) _ _); rw [HW2.out]) | (at_builtin; refine wpList_append_run rfl _ _ 22 rfl rfl rfl hrun ?_))
          go_roundw
          case rel => exact ⟨G ++ [rn N B G.length none], _, by rw [List.length_append]; exact hlt, by rw [List.length_append]; go_num, hR2⟩
          case measure => simp [RowKit.intOf]; omega
    · have hGN : G.length = N := by omega
      have hN0 : 0 < N := by omega
      have hrg := hR.rg hGN
      obtain ⟨p, c, rfl, hG⟩ := hR.gs (by omega)
      have hg2 := g2_of hR.gx
      have hI : Is wr (some ⟨rb, 0, none⟩) [0] := is_of_block (l := [0]) (f := (0, 0)) hR.rx
      have hz : Gz G := ⟨by omega, fun x hx => by
        obtain ⟨j, hj, rfl⟩ := mem_gAt hx
        obtain ⟨q, hq⟩ := hrg.x j hj
        rw [hq]
        exact ⟨(show 1 ≤ 1048576 by omega), (show 0 ≤ 1048576 by omega), (show (rk N B j).length ≤ 1000000 by have := rk_len N B j; omega)⟩⟩
      have hTw := lowP.on hT hR.bel
      have US := Uses_any lowP p (some ⟨rb, 0, none⟩) c 1 G [0] 0 wr hTw hG hz hI (by simp)
      have CY : Hid (∀ W, Below wr.heap.size wr W → _) := fun W hb => Cyclic_any lowP p (some ⟨rb, 0, none⟩) c 1 G [0] 0 W (lowP.on hTw hb) (hG.on hb) hz (hI.on hb) (by simp)
      have CN : Hid (∀ W, Below wr.heap.size wr W → _) := fun W hb => Cyclic_any lowP p (some ⟨rb, 0, none⟩) c 1 G [0] ((N : Int) - 1) W (lowP.on hTw hb) (hG.on hb) hz (hI.on hb) (by simp)
      have RE : Hid (∀ W, Below wr.heap.size wr W → _) := fun W hb => Reach_any lowP p (some ⟨rb, 0, none⟩) c 1 G [0] 0 W (lowP.on hTw hb) (hG.on hb) hz (hI.on hb) (by simp)
      have cy0 : cycP ritB rvB G [0] 0 = decide (B < N) := hrg.cyc hN0 (by omega) (r := 0) (.inl rfl)
      have cyn : cycP ritB rvB G [0] ((N : Int) - 1) = decide (B < N) := by
        have := hrg.cyc hN0 (by omega) (r := N - 1) (.inr (by omega))
        rwa [show ((N - 1 : Nat) : Int) = (N : Int) - 1 by omega] at this
      have hlen := hrg.len hN0 (by omega)
      obtain ⟨hul, hu⟩ := hrg.uses hN0 (by omega)
      have hbel := hR.bel
      simp only [cy0] at CY
      simp only [cyn] at CN
      unfold grV at US CY CN RE
      simp only [hGN, List.length_cons, List.length_nil, Nat.reduceAdd] at US CY CN RE hg2
      clear hR hG hz hI hTw hrg cy0 cyn hT
      generalize usesP ritB rvB G [0] 0 = U at *
      generalize reachP ritB rvB G [0] 0 = L at *
      rw [hGN]
      obtain ⟨f0, f1⟩ := id hg2
      have hN0' : (0 : Int) < N := by omega
      go_wp2_with (first | (go_at_call 16; refine US.mono ?_; clear US; rintro e W4 ⟨v4, rfl, ho4, hb4⟩; obtain ⟨a4, k4, c4, rfl⟩ := ownsRow_form ho4; obtain ⟨hI4, hk4, -, -⟩ := is_of_row ho4; rw [hul] at hk4; have hk5 := hk4.symm; subst hk5; have hg4 := hg2.on hb4; obtain ⟨g40, g41⟩ := id hg4))
      go_loop [10] (fun ri => ∃ i : Nat, i ≤ N ∧ ri = .int .i64 i) (fun ri => N - (RowKit.intOf ri).toNat)
      case atStart => exact ⟨0, Nat.zero_le _, rfl⟩
      case round =>
        obtain ⟨i, hi, rfl⟩ := hrel
        by_cases hlt : i < N
        · obtain ⟨b4, o4, rfl, hc4⟩ := hI4.at (by omega)
          have c1 := hc4 i (by omega)
          rw [hu i hlt] at c1
          have hlt' : (i : Int) < N := by omega
          clear hc4 hI4 ho4 CY CN RE hu
          by_cases hiB : i = B
          · rw [if_pos hiB] at c1
            subst hiB
            go_wp2
            go_round
            case rel => exact ⟨i + 1, by omega, by go_num⟩
            case measure => simp [RowKit.intOf]; omega
          · rw [if_neg hiB] at c1
            have hiB' : ¬ (i : Int) = B := by omega
            go_wp2
            go_round
            case rel => exact ⟨i + 1, by omega, by go_num⟩
            case measure => simp [RowKit.intOf]; omega
        · have hiN : N = i := by omega
          subst hiN
          have CY4 := CY.out W4 hb4
          clear CY hu hI4 ho4
          have hbb : ∃ bb, decide (B < N) = bb := ⟨_, rfl⟩
          obtain ⟨bb, hbb⟩ := hbb
          have hbi : decide ((B : Int) < N) = bb := by rw [← hbb]; simp
          rw [hbb] at CY4
          simp only [hbb] at CN
          have hN1' : IntKind.i64.wrap ((N : Int) - 1) = (N : Int) - 1 := by simp [IntKind.wrap, IntKind.bits, IntKind.signed]; omega
          cases bb
          all_goals
            go_wp2_with (first | (go_at_call 14; refine CY4.mono ?_; clear CY4; rintro e W5 ⟨rfl, hb5⟩; have hB5 := hb4.trans (hb5.mono hb4.size); obtain ⟨g50, g51⟩ := id (hg2.on hB5); have CN5 := CN.out W5 hB5) | (go_at_call 14; refine CN5.mono ?_; clear CN5; rintro e W6 ⟨rfl, hb6⟩; have hB6 := hB5.trans (hb6.mono hB5.size); obtain ⟨g60, g61⟩ := id (hg2.on hB6); have RE6 := RE.out W6 hB6) | (go_at_call 12; refine RE6.mono ?_; clear RE6; rintro e W7 ⟨v7, rfl, ho7, hb7⟩; obtain ⟨a7, k7, c7, rfl⟩ := ownsRow_form ho7; obtain ⟨hI7, hk7, -, -⟩ := is_of_row ho7; rw [hlen] at hk7; have hk8 := hk7.symm; subst hk8))
            go_ret
            exact ⟨rfl, hbel.trans ((hB6.trans (hb7.mono hB6.size)).mono hbel.size)⟩
end Go.Proofs.YtjfeamfchgcblaaDoor
