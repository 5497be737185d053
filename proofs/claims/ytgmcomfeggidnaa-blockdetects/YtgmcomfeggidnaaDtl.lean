/- BlockDetects, as it runs. -/
import Derived.Test.YtgmcomfeggidnaaDtp
set_option linter.unusedVariables false
set_option linter.unusedSimpArgs false
namespace Go.Proofs.Ytgmcomfeggidnaa
open Go.RowKit Go.Shelf

theorem strB_app (a b : List Int) : strB (a ++ b) = strB a ++ strB b := by
  unfold strB
  rw [List.map_append, ByteArray.mk_append_mk]
  try simp
theorem strB_size (a : List Int) : (strB a).size = a.length := by unfold strB; simp [ByteArray.size]
/-- The world behind the lines. -/
def dtW (w : World) (ahead at_ back : Int) : World := ((w.alloc (.cells #[.int .i64 97] 3)).alloc (.cells #[.int .i64 98] 3)).alloc (.cells #[.int .i64 ahead, .slice none 0 0, .int .i64 at_, .slice (some ⟨w.heap.size, 0, none⟩) 1 1, .int .i64 back, .slice (some ⟨w.heap.size + 1, 0, none⟩) 1 1] 44)
theorem dt_call (f : Bool) (n at_ ahead back : Int) (w : World) (h0 : n ≤ 20) (h1 : 0 ≤ at_) (h2 : at_ ≤ 30) (h3 : 0 ≤ ahead) (h4 : ahead ≤ 40) (h5 : 0 ≤ back) (h6 : back ≤ 30) :
    Calls Try.prog 12 #[.slice (some ⟨w.heap.size + 1 + 1, 0, none⟩) 3 3, .agg #[.bool f, .int .i64 0, .int .i64 0], .int .i64 n] (dtW w ahead at_ back) fun e w' => e = .returned (readV f 0 0 n (dtL ahead at_ back (some ⟨w.heap.size, 0, none⟩) (some ⟨w.heap.size + 1, 0, none⟩))) ∧ Below w.heap.size w w' := by
  unfold dtW
  obtain ⟨A, hA⟩ : ∃ A, ((w.alloc (.cells #[.int .i64 97] 3)).alloc (.cells #[.int .i64 98] 3)).alloc (.cells #[.int .i64 ahead, .slice none 0 0, .int .i64 at_, .slice (some ⟨w.heap.size, 0, none⟩) 1 1, .int .i64 back, .slice (some ⟨w.heap.size + 1, 0, none⟩) 1 1] 44) = A := ⟨_, rfl⟩
  have hb : Below w.heap.size w A := by rw [← hA]; exact (((Below.refl _ w).alloc (Nat.le_refl _) _).alloc (by simp) _).alloc (by simp; omega) _
  have k0 : A.heap[w.heap.size]? = some (.cells #[.int .i64 97] 3) := by
    rw [← hA]
    exact (Below.heap_alloc _ _ _ (by simp; omega)).trans ((Below.heap_alloc _ _ _ (by simp)).trans (World.alloc_heap_new w _))
  have k1 : A.heap[w.heap.size + 1]? = some (.cells #[.int .i64 98] 3) := by
    rw [← hA]
    have := World.alloc_heap_new (w.alloc (.cells #[.int .i64 97] 3)) (.cells #[.int .i64 98] 3)
    rw [World.size_alloc] at this
    exact (Below.heap_alloc _ _ _ (by simp)).trans this
  have k2 : A.heap[w.heap.size + 1 + 1]? = some (.cells #[.int .i64 ahead, .slice none 0 0, .int .i64 at_, .slice (some ⟨w.heap.size, 0, none⟩) 1 1, .int .i64 back, .slice (some ⟨w.heap.size + 1, 0, none⟩) 1 1] 44) := by
    rw [← hA]
    have := World.alloc_heap_new ((w.alloc (.cells #[.int .i64 97] 3)).alloc (.cells #[.int .i64 98] 3)) (.cells #[.int .i64 ahead, .slice none 0 0, .int .i64 at_, .slice (some ⟨w.heap.size, 0, none⟩) 1 1, .int .i64 back, .slice (some ⟨w.heap.size + 1, 0, none⟩) 1 1] 44)
    rw [World.size_alloc, World.size_alloc] at this
    exact this
  rw [hA]
  have hL : Ls A (some ⟨w.heap.size + 1 + 1, 0, none⟩) (dtL ahead at_ back (some ⟨w.heap.size, 0, none⟩) (some ⟨w.heap.size + 1, 0, none⟩)) := ls_block k2 (fun j x hj => by
    match j, hj with
    | 0, hj => cases hj; exact ⟨Nat.le_refl _, Nat.zero_le _, .inl rfl⟩
    | 1, hj => cases hj; exact ⟨by simp, (by decide : 1 ≤ maxLen), is_of_block (l := [97]) k0⟩
    | 2, hj => cases hj; exact ⟨by simp, (by decide : 1 ≤ maxLen), is_of_block (l := [98]) k1⟩
    | j + 3, hj => simp [dtL] at hj)
  have R := Read_any f 0 0 n _ _ 3 A ⟨by simp [dtL], fun j x hj => by
    match j, hj with
    | 0, hj => cases hj; exact ⟨h3, (by show ahead ≤ 1000; omega), by simp⟩
    | 1, hj => cases hj; exact ⟨h1, (by show at_ ≤ 1000; omega), by simp⟩
    | 2, hj => cases hj; exact ⟨h5, (by show back ≤ 1000; omega), by simp⟩
    | j + 3, hj => simp [dtL] at hj⟩ hL (by omega) (by decide) (by decide)
  exact R.mono fun e w' ⟨he, hb'⟩ => ⟨he, hb.trans (hb'.mono hb.size)⟩

set_option maxRecDepth 100000 in
set_option maxHeartbeats 1000000 in
theorem detects_in (f : Bool) (n at_ ahead back : Int) (w : World) (g0 : ¬ n < -1) (g1 : ¬ 20 < n) (g2 : ¬ at_ < 0) (g3 : ¬ 30 < at_) (g4 : ¬ ahead < 0) (g5 : ¬ 40 < ahead) (g6 : ¬ back < 0) (g7 : ¬ 30 < back) :
    Calls Try.prog 6 #[.int .i64 n, .int .i64 at_, .int .i64 ahead, .int .i64 back, .bool f] w fun e w' => e = .returned (.bool true) ∧ Below w.heap.size w w' := by
  have RD := fun W => dt_call f n at_ ahead back W (by omega) (by omega) (by omega) (by omega) (by omega) (by omega) (by omega)
  unfold dtW at RD
  by_cases h1 : at_ ≤ n
  · simp only [det_low f _ _ (by omega : -1 ≤ n) (by omega : 0 ≤ ahead) (by omega : 0 ≤ at_) h1] at RD
    go_enter Try.func6, Try.ntmps6
    go_wp2_with (first | (go_at_call 7; refine (alive_any _).mono ?_; rintro e w1 ⟨rfl, hb1⟩) | (go_at_call 12; refine (RD _).mono ?_; rintro e w2 ⟨rfl, hb2⟩) | (go_at_call 10; refine (num_any _ _).mono ?_; rintro e w2 ⟨rfl, rfl⟩))
    go_ret
    exact ⟨rfl, hb1.trans (hb2.mono hb1.size)⟩
  · by_cases h2 : at_ < ahead
    · simp only [det_err f _ _ (by omega : -1 ≤ n) (by omega : 0 ≤ ahead) (by omega : n < at_) h2] at RD
      go_enter Try.func6, Try.ntmps6
      go_wp2_with (first | (go_at_call 7; refine (alive_any _).mono ?_; rintro e w1 ⟨rfl, hb1⟩) | (go_at_call 12; refine (RD _).mono ?_; rintro e w2 ⟨rfl, hb2⟩) | (go_at_call 10; refine (num_any _ _).mono ?_; rintro e w2 ⟨rfl, rfl⟩))
      go_ret
      exact ⟨rfl, hb1.trans (hb2.mono hb1.size)⟩
    · by_cases h3 : back < at_
      · simp only [det_two f _ _ (by omega : -1 ≤ n) (by omega : 0 ≤ ahead) (by omega : n < at_) h2 h3] at RD
        have h4 : (back == at_) = false := by rw [beq_eq_false_iff_ne]; omega
        have h5 : ¬ at_ < back := by omega
        have h6 : ¬ at_ ≤ back := by omega
        go_enter Try.func6, Try.ntmps6
        go_wp2_with (first | (go_at_call 7; refine (alive_any _).mono ?_; rintro e w1 ⟨rfl, hb1⟩) | (go_at_call 12; refine (RD _).mono ?_; rintro e w2 ⟨rfl, hb2⟩) | (go_at_call 10; refine (num_any _ _).mono ?_; rintro e w2 ⟨rfl, rfl⟩))
        go_ret
        exact ⟨rfl, hb1.trans (hb2.mono hb1.size)⟩
      · simp only [det_three f _ _ (by omega : -1 ≤ n) (by omega : 0 ≤ ahead) (by omega : n < at_) h2 h3] at RD
        by_cases h4 : back = at_
        · subst h4
          rw [show (back - back).toNat = 0 by omega] at RD
          simp only [List.replicate_zero, List.nil_append] at RD
          cases f with
          | false =>
            rw [wh_lit] at RD
            simp only [show strB (encZ [10, 97, 10, 98, 10]) = ⟨#[10, 97, 10, 98, 10]⟩ from rfl] at RD
            go_enter Try.func6, Try.ntmps6
            go_wp2_with (first | (go_at_call 7; refine (alive_any _).mono ?_; rintro e w1 ⟨rfl, hb1⟩) | (go_at_call 12; refine (RD _).mono ?_; rintro e w2 ⟨rfl, hb2⟩) | (go_at_call 10; refine (num_any _ _).mono ?_; rintro e w2 ⟨rfl, rfl⟩))
            go_ret
            exact ⟨rfl, hb1.trans (hb2.mono hb1.size)⟩
          | true =>
            rw [wh_fold] at RD
            simp only [show strB (encZ [10, 97, 32, 98, 10]) = ⟨#[10, 97, 32, 98, 10]⟩ from rfl] at RD
            go_enter Try.func6, Try.ntmps6
            go_wp2_with (first | (go_at_call 7; refine (alive_any _).mono ?_; rintro e w1 ⟨rfl, hb1⟩) | (go_at_call 12; refine (RD _).mono ?_; rintro e w2 ⟨rfl, hb2⟩) | (go_at_call 10; refine (num_any _ _).mono ?_; rintro e w2 ⟨rfl, rfl⟩))
            go_ret
            exact ⟨rfl, hb1.trans (hb2.mono hb1.size)⟩
        · have h5 : (back == at_) = false := by simpa using h4
          have h6 : at_ < back := by omega
          obtain ⟨d, hd⟩ : ∃ d : Nat, (back - at_).toNat = d + 1 := ⟨(back - at_).toNat - 1, by omega⟩
          have hd30 : d < 31 := by omega
          rw [hd] at RD
          have e1 := wh_pad f ⟨d, hd30⟩
          have e2 := en_pad ⟨d, hd30⟩
          dsimp only at e1 e2
          rw [e1, e2] at RD
          obtain ⟨S, hS⟩ : ∃ S, strB ([10, 97, 10] ++ List.replicate (d + 1) 32 ++ [98, 10]) = S := ⟨_, rfl⟩
          simp only [hS] at RD
          have HS : Hid (strB ([10, 97, 10] ++ List.replicate (d + 1) 32 ++ [98, 10]) = S) := hS
          have HBK : Hid (back = at_ + ((d + 1 : Nat) : Int)) := by show _ = _; omega
          clear hS e1 e2 hd
          go_enter Try.func6, Try.ntmps6
          go_wp2_with (first | (go_at_call 7; refine (alive_any _).mono ?_; rintro e w1 ⟨rfl, hb1⟩) | (go_at_call 12; refine (RD _).mono ?_; rintro e w2 ⟨rfl, hb2⟩) | (go_at_call 10; refine (num_any _ _).mono ?_; rintro e w2 ⟨rfl, rfl⟩))
          go_loopw [17, 18] (fun pv iv wr => ∃ k : Nat, k ≤ d + 1 ∧ pv = .string (strB (List.replicate k 32)) ∧ iv = .int .i64 (at_ + k) ∧ wr = w2) (fun _ iv _ => (back - intOf iv).toNat)
          case atStart => exact ⟨0, Nat.zero_le _, rfl, by simp, rfl⟩
          case round =>
            obtain ⟨k, hk, rfl, rfl, rfl⟩ := hrel
            have hbk := HBK.out
            by_cases hlt : k < d + 1
            · have hli : at_ + (k : Int) < back := by omega
              have z0 : ¬ 9223372036854775807 < (strB (List.replicate k 32)).size + 1 := by rw [strB_size, List.length_replicate]; omega
              have HP : Hid (strB (List.replicate k 32) ++ ⟨#[32]⟩ = strB (List.replicate (k + 1) 32)) := by show _ = _; rw [List.replicate_succ', strB_app]; rfl
              generalize strB (List.replicate k 32) = pk at z0 HP
              clear hbk
              go_wp2
              go_roundw
              case rel => exact ⟨k + 1, by omega, by rw [← HP.out], by go_num, by first | rfl | trivial⟩
              case measure => simp [intOf]; omega
            · obtain rfl : k = d + 1 := by omega
              have hli : ¬ at_ + ((d + 1 : Nat) : Int) < back := by omega
              have hge : at_ ≤ back := by omega
              clear hbk
              have hrl : (List.replicate (d + 1) (32 : Int)).length = d + 1 := List.length_replicate
              generalize List.replicate (d + 1) (32 : Int) = rp at HS hrl
              have z1 : ¬ 9223372036854775807 < 3 + (strB rp).size := by rw [strB_size]; omega
              have z2 : ¬ 9223372036854775807 < 3 + (strB rp).size + 2 := by rw [strB_size]; omega
              obtain rfl : S = (⟨#[10, 97, 10]⟩ : ByteArray) ++ strB rp ++ ⟨#[98, 10]⟩ := by rw [← HS.out, strB_app, strB_app]; rfl
              clear HS hrl HBK
              go_wp2_with (first | (go_at_call 10; refine (num_any _ _).mono ?_; rintro e w2 ⟨rfl, rfl⟩))
              go_ret
              exact ⟨rfl, hb1.trans (hb2.mono hb1.size)⟩

set_option maxRecDepth 100000 in
set_option maxHeartbeats 1000000 in
theorem detects_law (n at_ ahead back : Int) (f : Bool) (w : World) :
    Calls Try.prog 6 #[.int .i64 n, .int .i64 at_, .int .i64 ahead, .int .i64 back, .bool f] w fun e w' => e = .returned (.bool true) ∧ Below w.heap.size w w' := by
  by_cases g0 : n < -1
  · go_enter Try.func6, Try.ntmps6
    go_wp2_with (first | (go_at_call 7; refine (alive_any _).mono ?_; rintro e w1 ⟨rfl, hb1⟩))
    go_ret
    exact ⟨rfl, hb1⟩
  by_cases g1 : 20 < n
  · go_enter Try.func6, Try.ntmps6
    go_wp2_with (first | (go_at_call 7; refine (alive_any _).mono ?_; rintro e w1 ⟨rfl, hb1⟩))
    go_ret
    exact ⟨rfl, hb1⟩
  by_cases g2 : at_ < 0
  · go_enter Try.func6, Try.ntmps6
    go_wp2_with (first | (go_at_call 7; refine (alive_any _).mono ?_; rintro e w1 ⟨rfl, hb1⟩))
    go_ret
    exact ⟨rfl, hb1⟩
  by_cases g3 : 30 < at_
  · go_enter Try.func6, Try.ntmps6
    go_wp2_with (first | (go_at_call 7; refine (alive_any _).mono ?_; rintro e w1 ⟨rfl, hb1⟩))
    go_ret
    exact ⟨rfl, hb1⟩
  by_cases g4 : ahead < 0
  · go_enter Try.func6, Try.ntmps6
    go_wp2_with (first | (go_at_call 7; refine (alive_any _).mono ?_; rintro e w1 ⟨rfl, hb1⟩))
    go_ret
    exact ⟨rfl, hb1⟩
  by_cases g5 : 40 < ahead
  · go_enter Try.func6, Try.ntmps6
    go_wp2_with (first | (go_at_call 7; refine (alive_any _).mono ?_; rintro e w1 ⟨rfl, hb1⟩))
    go_ret
    exact ⟨rfl, hb1⟩
  by_cases g6 : back < 0
  · go_enter Try.func6, Try.ntmps6
    go_wp2_with (first | (go_at_call 7; refine (alive_any _).mono ?_; rintro e w1 ⟨rfl, hb1⟩))
    go_ret
    exact ⟨rfl, hb1⟩
  by_cases g7 : 30 < back
  · go_enter Try.func6, Try.ntmps6
    go_wp2_with (first | (go_at_call 7; refine (alive_any _).mono ?_; rintro e w1 ⟨rfl, hb1⟩))
    go_ret
    exact ⟨rfl, hb1⟩
  exact detects_in f n at_ ahead back w g0 g1 g2 g3 g4 g5 g6 g7
end Go.Proofs.Ytgmcomfeggidnaa
