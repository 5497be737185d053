/- PlainLetters' walk. -/
import Derived.Test.YtdpeiggppemmcaaLem
set_option linter.unusedVariables false
set_option linter.unusedSimpArgs false
namespace Go.Proofs.Ytdpeiggppemmcaa
open Go.RowKit

theorem tl_len : ∀ m, (tlP m).length ≤ 1000
  | 0 => by simp [tlP]
  | 1 => by simp [tlP]
  | 2 => by simp [tlP]
  | 3 => by simp [tlP]
  | 4 => by simp [tlP]
  | 5 => by simp [tlP]
  | 6 => by simp [tlP]
  | m + 7 => by simp [tlP]

set_option maxRecDepth 100000 in
set_option maxHeartbeats 4000000 in
theorem letters_law (q : Option Addr) (t : List Int) (c : Nat) (hc : t.length ≤ c) (hm : c ≤ maxLen) (wh : Int) (fl : Bool) (w : World) (hI : Is w q t) :
    Calls Try.prog 6 #[.slice q t.length c, .int .i64 wh, .bool fl] w fun e w' => e = .returned (.bool true) ∧ Below w.heap.size w w' := by
  have AL := alive_any w
  by_cases h1 : t.length < 1
  · have h1' : (t.length : Int) < 1 := by omega
    go_enter Try.func6, Try.ntmps6
    go_wp2_with (first | (go_at_call 7; refine AL.mono ?_; rintro e W ⟨rfl, hB⟩))
    go_ret
    exact ⟨rfl, hB⟩
  have h1' : ¬ (t.length : Int) < 1 := by omega
  by_cases h100 : 100 < t.length
  · have h100' : (100 : Int) < t.length := by omega
    have hm' := big_int (Nat.le_trans hc hm)
    go_enter Try.func6, Try.ntmps6
    go_wp2_with (first | (go_at_call 7; refine AL.mono ?_; rintro e W ⟨rfl, hB⟩))
    go_ret
    exact ⟨rfl, hB⟩
  have h100' : ¬ (100 : Int) < t.length := by omega
  have h100'' : (t.length : Int) ≤ 100 := by omega
  go_enter Try.func6, Try.ntmps6
  go_wp2_with (first | (go_at_call 7; refine AL.mono ?_; rintro e W ⟨rfl, hB⟩))
  clear AL
  have hIW := hI.on hB
  go_loop [8] (fun iv => ∃ (k : Nat), k ≤ t.length ∧ iv = .int .i64 k ∧ Hid (∀ j, j < k → okL t j)) (fun iv => t.length - (intOf iv).toNat)
  case atStart => exact ⟨0, by omega, rfl, fun j hj => by omega⟩
  case round =>
    obtain ⟨k, hk, rfl, HE⟩ := hrel
    by_cases hlt : k < t.length
    · have hli : (k : Int) < t.length := by omega
      obtain ⟨b, o, rfl, hu⟩ := hIW.at (by omega)
      have c0 := hu k hlt
      have HN : Hid (okL t k → ∀ j, j < k + 1 → okL t j) := fun hv j hj => by
        by_cases e : j = k
        · subst e; exact hv
        · exact HE.out j (by omega)
      clear hu hIW hI HE
      by_cases h97 : 97 ≤ iAt t k
      · by_cases h122 : iAt t k ≤ 122
        · have HN' : Hid _ := HN.out (.inl ⟨h97, h122⟩)
          clear HN
          generalize iAt t k = x at c0 h97 h122
          go_wp2
          go_round
          case rel => exact ⟨k + 1, by omega, by go_num, HN'⟩
          case measure => simp [intOf]; omega
        · have h32 : (iAt t k == 32) = false := by simp; omega
          have h32n : ¬ iAt t k = 32 := by omega
          generalize iAt t k = x at c0 h97 h122 h32 h32n
          clear HN
          go_wp2
          go_ret
          exact ⟨rfl, hB⟩
      · by_cases h32 : iAt t k = 32
        · rw [h32] at c0
          by_cases hk0 : k = 0
          · have hk0' : ((k : Int) == 0) = true := by simp; exact hk0
            clear HN hk0
            go_wp2
            go_ret
            exact ⟨rfl, hB⟩
          · have hk0' : ((k : Int) == 0) = false := by simp; exact hk0
            by_cases hk1 : k + 1 = t.length
            · have hk1' : ((k : Int) + 1 == (t.length : Int)) = true := by simp; omega
              clear HN
              go_wp2
              go_ret
              exact ⟨rfl, hB⟩
            · have hk1' : ((k : Int) + 1 == (t.length : Int)) = false := by simp; omega
              have HN' : Hid _ := HN.out (.inr ⟨h32, by omega, by omega⟩)
              clear HN
              go_wp2
              go_round
              case rel => exact ⟨k + 1, by omega, by go_num, HN'⟩
              case measure => simp [intOf]; omega
        · have h32' : (iAt t k == 32) = false := by simpa using h32
          generalize iAt t k = x at c0 h97 h32 h32'
          clear HN
          go_wp2
          go_ret
          exact ⟨rfl, hB⟩
    · obtain rfl : k = t.length := by omega
      have hge : ¬ (t.length : Int) < t.length := by omega
      obtain ⟨hTB, hT⟩ := tails W
      have hBT := hB.trans (hTB.mono hB.size)
      by_cases hw0 : wh < 0
      · unfold tW at hBT
        go_wp2
        go_ret
        exact ⟨rfl, hBT⟩
      by_cases hw8 : 8 ≤ wh
      · unfold tW at hBT
        go_wp2
        go_ret
        exact ⟨rfl, hBT⟩
      obtain ⟨m, rfl⟩ : ∃ m : Nat, wh = m := ⟨wh.toNat, by omega⟩
      have hm8 : m < 8 := by omega
      obtain ⟨hTc, hTi⟩ := hT m hm8
      have hIT := hIW.on hTB
      go_wp2
      obtain ⟨V, hV⟩ : ∃ V, tW W = V := ⟨_, rfl⟩
      rw [hV] at hTB hBT hTc hTi hIT
      unfold tW at hV
      rw [hV]
      clear hV hT
      obtain ⟨v1, V1, v2, V2, R1, B1, R2, B2, p2, k2, rfl, hI2⟩ := app_two c (tlP m).length hIT hTi (by omega) (tl_len m)
      have hS1 : V1.cell? ⟨W.heap.size + 1 + 1 + 1 + 1 + 1 + 1 + 1, m, none⟩ = some (.slice (tQ W m) (tlP m).length (tlP m).length) := (B1.cell (p := ⟨W.heap.size + 1 + 1 + 1 + 1 + 1 + 1 + 1, m, none⟩) (World.block_lt_of_cell? V _ hTc)).trans hTc
      have hS2 : V2.cell? ⟨W.heap.size + 1 + 1 + 1 + 1 + 1 + 1 + 1, m, none⟩ = some (.slice (tQ W m) (tlP m).length (tlP m).length) := (B2.cell (p := ⟨W.heap.size + 1 + 1 + 1 + 1 + 1 + 1 + 1, m, none⟩) (World.block_lt_of_cell? V _ hTc)).trans hTc
      have hBB := hBT.trans (B2.mono (Nat.le_trans hB.size hTB.size))
      have GB := beg_let (tlP m) fl (by omega) HE.out
      have GE := let_end (by omega) HE.out fl m
      have GK := let_key (by omega) HE.out fl m
      have hA : (t ++ tlP m).length ≤ 1099511627776 := by rw [List.length_append]; have := tl_len m; omega
      generalize (tlP m).length = L at *
      generalize tQ W m = tq at *
      have hmi : (m : Int) < 8 := by omega
      refine wp_region_held (S := fun w' => w'.cell? ⟨W.heap.size + 1 + 1 + 1 + 1 + 1 + 1 + 1, m, none⟩ = some (.slice tq L L)) (by kernel_rfl) ?_
      refine wpAnyH_take (i := 0) (v := .slice q t.length c) rfl (by kernel_rfl) (by kernel_rfl) (by kernel_rfl) (fun _ _ _ h => h) (.inl ⟨rfl, fun w _ => by go_simp⟩) hTc ?_
      refine wpAnyH_take (i := 2) (v := .slice (some ⟨W.heap.size + 1 + 1 + 1 + 1 + 1 + 1 + 1, 0, none⟩) 8 8) rfl (by kernel_rfl) (by kernel_rfl) (by kernel_rfl) (fun _ _ _ h => h) (.inl ⟨rfl, fun w _ => by go_simp⟩) hTc ?_
      refine wpAnyH_take (i := 3) (v := .int .i64 (m : Nat)) rfl (by kernel_rfl) (by kernel_rfl) (by kernel_rfl) (fun _ _ _ h => h) (.inl ⟨rfl, fun w _ => by go_simp⟩) hTc ?_
      refine wpAnyH_take (i := 4) (v := .pointer (some ⟨W.heap.size + 1 + 1 + 1 + 1 + 1 + 1 + 1, m, none⟩)) rfl (by kernel_rfl) (by kernel_rfl) (by kernel_rfl) (fun _ _ _ h => h) (.inl ⟨rfl, fun w _ => by go_simp⟩) hTc ?_
      refine wpAnyH_take (i := 5) (v := .slice tq L L) rfl (by kernel_rfl) (by kernel_rfl) (by kernel_rfl) (fun _ _ _ h => h) (.inl ⟨rfl, fun w hw => by go_simp⟩) hTc ?_
      refine anyH_append (i := 1) (by kernel_rfl) rfl rfl rfl rfl rfl R1 hS1 ?_
      refine anyH_append (i := 6) (by kernel_rfl) rfl rfl rfl rfl rfl R2 hS2 ?_
      refine wpAnyH_take (i := 7) (v := .slice p2 (t ++ tlP m).length k2) rfl (by kernel_rfl) (by kernel_rfl) (by kernel_rfl) (fun _ _ _ h => h) (.inl ⟨rfl, fun w _ => by go_simp⟩) hS2 ?_
      refine wpAnyH_done (by kernel_rfl) ?_ _
      generalize t ++ tlP m = A at *
      clear R1 R2
      cases fl with
      | false =>
        go_wp2
        have e1 : ((V2.alloc (.cells #[.int .i64 (t.length : Nat), .int .i64 (t.length : Nat), .int .i64 (t.length : Nat), .int .i64 (t.length : Nat), .int .i64 (t.length : Nat), .int .i64 ((t.length : Int) + 2), .int .i64 ((t.length : Int) + 2), .int .i64 ((t.length : Int) + 2)] 3)).alloc (.cells #[.int .i64 (-1), .int .i64 (t.length : Nat), .int .i64 (t.length : Nat), .int .i64 ((t.length : Int) + 1), .int .i64 (-1), .int .i64 (-1), .int .i64 (-1), .int .i64 (-1)] 3)).heap[V2.heap.size]? = some (.cells #[.int .i64 (t.length : Nat), .int .i64 (t.length : Nat), .int .i64 (t.length : Nat), .int .i64 (t.length : Nat), .int .i64 (t.length : Nat), .int .i64 ((t.length : Int) + 2), .int .i64 ((t.length : Int) + 2), .int .i64 ((t.length : Int) + 2)] 3) := old_at (new_at V2 _ rfl)
        have e2 : ((V2.alloc (.cells #[.int .i64 (t.length : Nat), .int .i64 (t.length : Nat), .int .i64 (t.length : Nat), .int .i64 (t.length : Nat), .int .i64 (t.length : Nat), .int .i64 ((t.length : Int) + 2), .int .i64 ((t.length : Int) + 2), .int .i64 ((t.length : Int) + 2)] 3)).alloc (.cells #[.int .i64 (-1), .int .i64 (t.length : Nat), .int .i64 (t.length : Nat), .int .i64 ((t.length : Int) + 1), .int .i64 (-1), .int .i64 (-1), .int .i64 (-1), .int .i64 (-1)] 3)).heap[V2.heap.size + 1]? = some (.cells #[.int .i64 (-1), .int .i64 (t.length : Nat), .int .i64 (t.length : Nat), .int .i64 ((t.length : Int) + 1), .int .i64 (-1), .int .i64 (-1), .int .i64 (-1), .int .i64 (-1)] 3) := new_at _ _ (by simp)
        have hX : Below V2.heap.size V2 ((V2.alloc (.cells #[.int .i64 (t.length : Nat), .int .i64 (t.length : Nat), .int .i64 (t.length : Nat), .int .i64 (t.length : Nat), .int .i64 (t.length : Nat), .int .i64 ((t.length : Int) + 2), .int .i64 ((t.length : Int) + 2), .int .i64 ((t.length : Int) + 2)] 3)).alloc (.cells #[.int .i64 (-1), .int .i64 (t.length : Nat), .int .i64 (t.length : Nat), .int .i64 ((t.length : Int) + 1), .int .i64 (-1), .int .i64 (-1), .int .i64 (-1), .int .i64 (-1)] 3)) := ((Below.refl _ V2).alloc (Nat.le_refl _) _).alloc (by simp) _
        have hsX : ((V2.alloc (.cells #[.int .i64 (t.length : Nat), .int .i64 (t.length : Nat), .int .i64 (t.length : Nat), .int .i64 (t.length : Nat), .int .i64 (t.length : Nat), .int .i64 ((t.length : Int) + 2), .int .i64 ((t.length : Int) + 2), .int .i64 ((t.length : Int) + 2)] 3)).alloc (.cells #[.int .i64 (-1), .int .i64 (t.length : Nat), .int .i64 (t.length : Nat), .int .i64 ((t.length : Int) + 1), .int .i64 (-1), .int .i64 (-1), .int .i64 (-1), .int .i64 (-1)] 3)).heap.size = V2.heap.size + 2 := by simp
        generalize ((V2.alloc (.cells #[.int .i64 (t.length : Nat), .int .i64 (t.length : Nat), .int .i64 (t.length : Nat), .int .i64 (t.length : Nat), .int .i64 (t.length : Nat), .int .i64 ((t.length : Int) + 2), .int .i64 ((t.length : Int) + 2), .int .i64 ((t.length : Int) + 2)] 3)).alloc (.cells #[.int .i64 (-1), .int .i64 (t.length : Nat), .int .i64 (t.length : Nat), .int .i64 ((t.length : Int) + 1), .int .i64 (-1), .int .i64 (-1), .int .i64 (-1), .int .i64 (-1)] 3)) = X at e1 e2 hX hsX ⊢
        have f1 : X.cell? ⟨V2.heap.size, m, none⟩ = some (.int .i64 (enK t.length false m : Nat)) := by simpa [World.cell?, e1] using en_cells t.length m hm8
        have f2 : X.cell? ⟨V2.heap.size + 1, m, none⟩ = some (.int .i64 (kyK t.length m)) := by simpa [World.cell?, e2] using ky_cells t.length m hm8
        have hBX := hBB.trans (hX.mono hBB.size)
        have hIX := hI2.on hX
        have BG := fun n : KinT X => kin_call (n := n) (Begins_any p2 A k2 false n.val hA (hIX.on n.property))
        have EN := fun n : KinT X => kin_call (n := n) (End_any p2 A k2 false n.val hA (hIX.on n.property))
        have KY := fun n : KinT X => kin_call (n := n) (Key_any p2 A k2 false n.val hA (hIX.on n.property))
        rw [GB] at BG
        rw [GE] at EN
        rw [GK] at KY
        have hS0 : ∀ n : KinT X, n.val.cell? ⟨V2.heap.size, m, none⟩ = some (.int .i64 (enK t.length false m : Nat)) := fun n => (n.property.cell (p := ⟨V2.heap.size, m, none⟩) (by show V2.heap.size < _; omega)).trans f1
        have hS3 : ∀ n : KinT X, n.val.cell? ⟨V2.heap.size + 1, m, none⟩ = some (.int .i64 (kyK t.length m)) := fun n => (n.property.cell (p := ⟨V2.heap.size + 1, m, none⟩) (by show V2.heap.size + 1 < _; omega)).trans f2
        generalize enK t.length false m = E at EN hS0
        generalize kyK t.length m = K at KY hS3
        clear e1 e2 f1 f2 hIX hI2 hX GB GE GK hS1 hS2 B1 B2 hTc hTi hIT hTB hBT HE hI hIW
        refine wp_region_quiet (C := fun w' => ∃ n : KinT X, w' = n.val) (by kernel_rfl) (by kernel_rfl) ⟨⟨X.drew, (Below.refl _ X).drew⟩, rfl⟩ ?_
        simp only [List.toList_toArray]
        repeat (go_big_quiet_step (first | (go_at_call 10; exact BG _) | (go_at_call 9; exact EN _) | (go_at_call 8; exact KY _) | exact rfl))
        refine wpQuiet_nil ?_
        rintro w' ⟨n, rfl⟩
        go_wp2
        go_ret
        exact ⟨rfl, hBX.trans (n.property.mono hBX.size)⟩
      | true =>
        go_wp2
        have e1 : ((V2.alloc (.cells #[.int .i64 (t.length : Nat), .int .i64 (t.length : Nat), .int .i64 (t.length : Nat), .int .i64 (t.length : Nat), .int .i64 (t.length : Nat), .int .i64 (t.length : Nat), .int .i64 ((t.length : Int) + 2), .int .i64 ((t.length : Int) + 2)] 3)).alloc (.cells #[.int .i64 (-1), .int .i64 (t.length : Nat), .int .i64 (t.length : Nat), .int .i64 ((t.length : Int) + 1), .int .i64 (-1), .int .i64 (-1), .int .i64 (-1), .int .i64 (-1)] 3)).heap[V2.heap.size]? = some (.cells #[.int .i64 (t.length : Nat), .int .i64 (t.length : Nat), .int .i64 (t.length : Nat), .int .i64 (t.length : Nat), .int .i64 (t.length : Nat), .int .i64 (t.length : Nat), .int .i64 ((t.length : Int) + 2), .int .i64 ((t.length : Int) + 2)] 3) := old_at (new_at V2 _ rfl)
        have e2 : ((V2.alloc (.cells #[.int .i64 (t.length : Nat), .int .i64 (t.length : Nat), .int .i64 (t.length : Nat), .int .i64 (t.length : Nat), .int .i64 (t.length : Nat), .int .i64 (t.length : Nat), .int .i64 ((t.length : Int) + 2), .int .i64 ((t.length : Int) + 2)] 3)).alloc (.cells #[.int .i64 (-1), .int .i64 (t.length : Nat), .int .i64 (t.length : Nat), .int .i64 ((t.length : Int) + 1), .int .i64 (-1), .int .i64 (-1), .int .i64 (-1), .int .i64 (-1)] 3)).heap[V2.heap.size + 1]? = some (.cells #[.int .i64 (-1), .int .i64 (t.length : Nat), .int .i64 (t.length : Nat), .int .i64 ((t.length : Int) + 1), .int .i64 (-1), .int .i64 (-1), .int .i64 (-1), .int .i64 (-1)] 3) := new_at _ _ (by simp)
        have hX : Below V2.heap.size V2 ((V2.alloc (.cells #[.int .i64 (t.length : Nat), .int .i64 (t.length : Nat), .int .i64 (t.length : Nat), .int .i64 (t.length : Nat), .int .i64 (t.length : Nat), .int .i64 (t.length : Nat), .int .i64 ((t.length : Int) + 2), .int .i64 ((t.length : Int) + 2)] 3)).alloc (.cells #[.int .i64 (-1), .int .i64 (t.length : Nat), .int .i64 (t.length : Nat), .int .i64 ((t.length : Int) + 1), .int .i64 (-1), .int .i64 (-1), .int .i64 (-1), .int .i64 (-1)] 3)) := ((Below.refl _ V2).alloc (Nat.le_refl _) _).alloc (by simp) _
        have hsX : ((V2.alloc (.cells #[.int .i64 (t.length : Nat), .int .i64 (t.length : Nat), .int .i64 (t.length : Nat), .int .i64 (t.length : Nat), .int .i64 (t.length : Nat), .int .i64 (t.length : Nat), .int .i64 ((t.length : Int) + 2), .int .i64 ((t.length : Int) + 2)] 3)).alloc (.cells #[.int .i64 (-1), .int .i64 (t.length : Nat), .int .i64 (t.length : Nat), .int .i64 ((t.length : Int) + 1), .int .i64 (-1), .int .i64 (-1), .int .i64 (-1), .int .i64 (-1)] 3)).heap.size = V2.heap.size + 2 := by simp
        generalize ((V2.alloc (.cells #[.int .i64 (t.length : Nat), .int .i64 (t.length : Nat), .int .i64 (t.length : Nat), .int .i64 (t.length : Nat), .int .i64 (t.length : Nat), .int .i64 (t.length : Nat), .int .i64 ((t.length : Int) + 2), .int .i64 ((t.length : Int) + 2)] 3)).alloc (.cells #[.int .i64 (-1), .int .i64 (t.length : Nat), .int .i64 (t.length : Nat), .int .i64 ((t.length : Int) + 1), .int .i64 (-1), .int .i64 (-1), .int .i64 (-1), .int .i64 (-1)] 3)) = X at e1 e2 hX hsX ⊢
        have f1 : X.cell? ⟨V2.heap.size, m, none⟩ = some (.int .i64 (enK t.length true m : Nat)) := by simpa [World.cell?, e1] using en_cellsF t.length m hm8
        have f2 : X.cell? ⟨V2.heap.size + 1, m, none⟩ = some (.int .i64 (kyK t.length m)) := by simpa [World.cell?, e2] using ky_cells t.length m hm8
        have hBX := hBB.trans (hX.mono hBB.size)
        have hIX := hI2.on hX
        have BG := fun n : KinT X => kin_call (n := n) (Begins_any p2 A k2 true n.val hA (hIX.on n.property))
        have EN := fun n : KinT X => kin_call (n := n) (End_any p2 A k2 true n.val hA (hIX.on n.property))
        have KY := fun n : KinT X => kin_call (n := n) (Key_any p2 A k2 true n.val hA (hIX.on n.property))
        rw [GB] at BG
        rw [GE] at EN
        rw [GK] at KY
        have hS0 : ∀ n : KinT X, n.val.cell? ⟨V2.heap.size, m, none⟩ = some (.int .i64 (enK t.length true m : Nat)) := fun n => (n.property.cell (p := ⟨V2.heap.size, m, none⟩) (by show V2.heap.size < _; omega)).trans f1
        have hS3 : ∀ n : KinT X, n.val.cell? ⟨V2.heap.size + 1, m, none⟩ = some (.int .i64 (kyK t.length m)) := fun n => (n.property.cell (p := ⟨V2.heap.size + 1, m, none⟩) (by show V2.heap.size + 1 < _; omega)).trans f2
        generalize enK t.length true m = E at EN hS0
        generalize kyK t.length m = K at KY hS3
        clear e1 e2 f1 f2 hIX hI2 hX GB GE GK hS1 hS2 B1 B2 hTc hTi hIT hTB hBT HE hI hIW
        refine wp_region_quiet (C := fun w' => ∃ n : KinT X, w' = n.val) (by kernel_rfl) (by kernel_rfl) ⟨⟨X.drew, (Below.refl _ X).drew⟩, rfl⟩ ?_
        simp only [List.toList_toArray]
        repeat (go_big_quiet_step (first | (go_at_call 10; exact BG _) | (go_at_call 9; exact EN _) | (go_at_call 8; exact KY _) | exact rfl))
        refine wpQuiet_nil ?_
        rintro w' ⟨n, rfl⟩
        go_wp2
        go_ret
        exact ⟨rfl, hBX.trans (n.property.mono hBX.size)⟩
end Go.Proofs.Ytdpeiggppemmcaa
