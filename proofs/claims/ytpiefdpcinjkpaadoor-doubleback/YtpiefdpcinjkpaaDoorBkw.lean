/- Write, as it runs; DoubleBack. -/
import Derived.Test.YtpiefdpcinjkpaaDoorBka
import Derived.Test.YtpiefdpcinjkpaaDoorBkl
set_option linter.unusedVariables false
set_option linter.unusedSimpArgs false
namespace Go.Proofs.YtpiefdpcinjkpaaDoor
open Go.RowKit Go.Shelf

theorem body_snoc (l : List Int) {k : Nat} (h : k < l.length) : 34 :: bodyP (l.take (k + 1)) = 34 :: bodyP (l.take k) ++ oneP (iAt l k) := by
  rw [take_more' h]
  simp [bodyP]

set_option maxRecDepth 100000 in
set_option maxHeartbeats 1000000 in
theorem Write_any (q : Option Addr) (t : List Int) (c : Nat) (w : World) (hn : t.length ≤ 300) (hI : Is w q t) (hT : Tab w) :
    Calls Tryd.prog 17 #[.slice q t.length c] w fun e w' => ∃ v, e = .returned v ∧ Owns w' w.heap.size v (34 :: bodyP t ++ [34]) ∧ Below w.heap.size w w' := by
  have hn2 : (t.length : Int) ≤ 300 := by omega
  have h0n := hT.lt
  have h0 := owns_lit1 w 34
  have hb0 := (Below.refl _ w).alloc (Nat.le_refl _) (.cells #[.int .i64 34] 3)
  go_enter Tryd.func17, Tryd.ntmps17
  go_wp2
  generalize w.alloc (.cells #[.int .i64 34] 3) = W0 at h0 hb0
  go_loopw [3, 9] (fun ov iv wr => ∃ (k : Nat), k ≤ t.length ∧ iv = .int .i64 k ∧ Owns wr w.heap.size ov (34 :: bodyP (t.take k)) ∧ Below w.heap.size w wr) (fun _ iv _ => t.length - (intOf iv).toNat)
  case atStart => exact ⟨0, Nat.zero_le _, rfl, by simpa [bodyP] using h0, hb0⟩
  case round =>
    obtain ⟨k, hk, rfl, ho, hb⟩ := hrel
    obtain ⟨va, vk, vq, rfl⟩ := ownsRow_form ho
    by_cases hlt : k < t.length
    · have hli : (k : Int) < t.length := by omega
      obtain ⟨b, o, rfl, hu⟩ := (hI.on hb).at (by omega)
      have c0 := hu k hlt
      have HT : Hid (34 :: bodyP (t.take (k + 1)) = 34 :: bodyP (t.take k) ++ oneP (iAt t k)) := body_snoc t hlt
      have hlk : (34 :: bodyP (t.take k)).length ≤ 1801 := by
        have h1 := body_len (t.take k)
        rw [List.length_take] at h1
        rw [List.length_cons]
        omega
      have IP := isPoint_any (iAt t k)
      generalize 34 :: bodyP (t.take k) = pre at ho HT hlk
      generalize iAt t k = x at c0 IP HT
      by_cases hp : pointP x = true
      · rw [hp] at IP
        have hfx : fixP x = x := by unfold fixP; rw [if_pos hp]
        have ST := stands_any x
        by_cases hs : standsP x = true
        · rw [hs] at ST
          have HO : Hid (oneP x = [x]) := by show _ = _; unfold oneP; rw [hfx, if_pos hs]
          obtain ⟨v4, W4, hr4, ho4, hb4⟩ := push1w ho hb.size (by omega) x
          obtain ⟨v4a, v4k, v4c, rfl⟩ := ownsRow_form ho4
          clear hu hp hs hfx
          go_wp2_with (first | (go_at_call 23; refine (IP _).mono ?_; rintro e wr ⟨rfl, rfl⟩) | (go_at_call 24; refine (ST _).mono ?_; rintro e wr ⟨rfl, rfl⟩) | (at_builtin; refine wpList_append_run (u := .slice va vk vq) (y := .slice (some ⟨wr.heap.size, 0, none⟩) 1 1) rfl _ _ 25 rfl rfl rfl hr4 ?_; clear hr4))
          go_roundw
          case rel => exact ⟨k + 1, by omega, by go_num, by rw [HT.out, HO.out]; exact ho4, hb.trans hb4⟩
          case measure => simp [intOf]; omega
        · have hs' : standsP x = false := by simpa using hs
          rw [hs'] at ST
          have HO : Hid (oneP x = signsP x) := by show _ = _; unfold oneP; rw [hfx, if_neg hs]
          obtain ⟨s0, s1⟩ := small_of_not hp hs'
          have SG := callsIn_wide.1 (signs_in 0 x wr)
          have hnew := World.alloc_heap_new wr (.cells #[.int .i64 x] 3)
          have c1 : (wr.alloc (.cells #[.int .i64 x] 3)).cell? ⟨wr.heap.size, 0, none⟩ = some (.int .i64 x) := by unfold World.cell?; dsimp only; rw [hnew]; rfl
          have AS := callsIn_wide.1 (appendSeqS 1 (Nat.le_refl _) wr.heap.size w.heap.size x s0 s1 va vk vq pre (wr.alloc (.cells #[.int .i64 x] 3)) (by have := hb.size; simp; omega) h0n ((hT.on hb).grown (grown_new _ _)) c1 (by omega) (ho.alloc _) (fun g hg => by
            have := owns_lt ho hg
            omega))
          have hbn := hb.alloc hb.size (.cells #[.int .i64 x] 3)
          clear hu hp hs hs' hfx c1 hnew
          go_wp2_with (first | (go_at_call 23; refine (IP _).mono ?_; rintro e wr ⟨rfl, rfl⟩) | (go_at_call 24; refine (ST _).mono ?_; rintro e wr ⟨rfl, rfl⟩) | (go_at_call 26; refine SG.mono ?_; rintro e W5 ⟨rfl, rfl⟩) | (go_at_call 25; refine AS.mono ?_; rintro e W6 ⟨v6, rfl, ho6, hb6⟩; obtain ⟨v6a, v6k, v6c, rfl⟩ := ownsRow_form ho6))
          go_roundw
          case rel => exact ⟨k + 1, by omega, by go_num, by rw [HT.out, HO.out]; exact ho6, hbn.trans hb6⟩
          case measure => simp [intOf]; omega
      · have hp' : pointP x = false := by simpa using hp
        rw [hp'] at IP
        have ST := stands_any 65533
        rw [show standsP 65533 = true from by decide] at ST
        have HO : Hid (oneP x = [65533]) := by show _ = _; unfold oneP fixP; rw [if_neg hp, if_pos (by decide)]
        obtain ⟨v4, W4, hr4, ho4, hb4⟩ := push1w ho hb.size (by omega) 65533
        obtain ⟨v4a, v4k, v4c, rfl⟩ := ownsRow_form ho4
        clear hu hp hp'
        go_wp2_with (first | (go_at_call 23; refine (IP _).mono ?_; rintro e wr ⟨rfl, rfl⟩) | (go_at_call 24; refine (ST _).mono ?_; rintro e wr ⟨rfl, rfl⟩) | (at_builtin; refine wpList_append_run (u := .slice va vk vq) (y := .slice (some ⟨wr.heap.size, 0, none⟩) 1 1) rfl _ _ 25 rfl rfl rfl hr4 ?_; clear hr4))
        go_roundw
        case rel => exact ⟨k + 1, by omega, by go_num, by rw [HT.out, HO.out]; exact ho4, hb.trans hb4⟩
        case measure => simp [intOf]; omega
    · obtain rfl : k = t.length := by omega
      rw [List.take_length] at ho
      have hlk := body_len t
      obtain ⟨v4, W4, hr4, ho4, hb4⟩ := push1w ho hb.size (by rw [List.length_cons]; omega) 34
      obtain ⟨v4a, v4k, v4c, rfl⟩ := ownsRow_form ho4
      go_wp2_with (first | (at_builtin; refine wpList_append_run (u := .slice va vk vq) (y := .slice (some ⟨wr.heap.size, 0, none⟩) 1 1) rfl _ _ 25 rfl rfl rfl hr4 ?_; clear hr4))
      go_ret
      exact ⟨_, rfl, ho4, hb.trans hb4⟩

theorem back_whole (q : Option Addr) (l : List Int) (c : Nat) (w : World) (hc : l.length ≤ c) (hm : c ≤ maxLen) (hI : Is w q l) (hT : Tab w) :
    Calls Tryd.prog 5 #[.slice q l.length c] w fun e w' => e = .returned (.bool true) ∧ Below w.heap.size w w' :=
  back_law q l c w hc hm hI hT (fun hn W hb => Write_any q l c W hn (hI.on hb) (hT.on hb))
end Go.Proofs.YtpiefdpcinjkpaaDoor
