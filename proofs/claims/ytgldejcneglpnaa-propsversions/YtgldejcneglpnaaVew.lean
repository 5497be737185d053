/- PropsVersions' walk. -/
import Derived.Test.YtgldejcneglpnaaVed
import Derived.Test.YtgldejcneglpnaaRdl
set_option linter.unusedVariables false
set_option linter.unusedSimpArgs false
namespace Go.Proofs.Ytgldejcneglpnaa
open Go.RowKit Go.Shelf

theorem wf_max {a : Int} (h : (Lit.int .i64 a).wf = true) : a ≤ 9223372036854775807 := by
  simp [Lit.wf, IntKind.wrap, IntKind.bits, IntKind.signed] at h
  exact h.2

set_option maxRecDepth 100000 in
set_option maxHeartbeats 4000000 in
theorem versions_law (a b k wh : Int) (w0 : (Lit.int .i64 a).wf = true) (w1 : (Lit.int .i64 b).wf = true) (w : World) :
    Calls Try.prog 7 #[.int .i64 a, .int .i64 b, .int .i64 k, .int .i64 wh] w fun e w' => e = .returned (.bool true) ∧ Below w.heap.size w w' := by
  have AL := alive_any w
  have ha := wf_max w0
  have hb := wf_max w1
  clear w0 w1
  by_cases h1 : a < 0
  · go_enter Try.func7, Try.ntmps7
    go_wp2_with (first | (go_at_call 8; refine AL.mono ?_; rintro e W ⟨rfl, hB⟩))
    go_ret
    exact ⟨rfl, hB⟩
  by_cases h2 : b < 0
  · go_enter Try.func7, Try.ntmps7
    go_wp2_with (first | (go_at_call 8; refine AL.mono ?_; rintro e W ⟨rfl, hB⟩))
    go_ret
    exact ⟨rfl, hB⟩
  by_cases h3 : k < 0
  · go_enter Try.func7, Try.ntmps7
    go_wp2_with (first | (go_at_call 8; refine AL.mono ?_; rintro e W ⟨rfl, hB⟩))
    go_ret
    exact ⟨rfl, hB⟩
  by_cases h4 : 10 < k
  · go_enter Try.func7, Try.ntmps7
    go_wp2_with (first | (go_at_call 8; refine AL.mono ?_; rintro e W ⟨rfl, hB⟩))
    go_ret
    exact ⟨rfl, hB⟩
  obtain ⟨an, rfl⟩ := Int.eq_ofNat_of_zero_le (show 0 ≤ a by omega)
  obtain ⟨bn, rfl⟩ := Int.eq_ofNat_of_zero_le (show 0 ≤ b by omega)
  obtain ⟨n, rfl⟩ := Int.eq_ofNat_of_zero_le (show 0 ≤ k by omega)
  have hn10 : n ≤ 10 := by omega
  have DA := digits_any 18 an (by omega) (by decide) ha
  have DB := digits_any 18 bn (by omega) (by decide) hb
  have d1 : decide ((an : Int) < 0) = false := decide_eq_false (by omega)
  have d2 : decide ((bn : Int) < 0) = false := decide_eq_false (by omega)
  have d3 : decide ((n : Int) < 0) = false := decide_eq_false (by omega)
  have d4 : decide ((10 : Int) < (n : Int)) = false := decide_eq_false (by omega)
  go_enter Try.func7, Try.ntmps7
  go_wp2_with (first | (go_at_call 8; refine AL.mono ?_; rintro e W ⟨rfl, hB⟩))
  go_loop [10, 11] (fun gv iv => ∃ j : Nat, j ≤ n ∧ gv = .string (gB j) ∧ iv = .int .i64 j) (fun _ iv => n - (intOf iv).toNat)
  case atStart => exact ⟨0, Nat.zero_le _, rfl, rfl⟩
  case round =>
    obtain ⟨j, hj, rfl, rfl⟩ := hrel
    by_cases hlt : j < n
    · have hli : (j : Int) < n := by omega
      have A := fun w => run_string_add_sum (P := Try.prog) w (gB j) ⟨#[32]⟩ (by rw [gB_size]; show j + 1 ≤ _; omega)
      rw [gB_more] at A
      clear AL DA DB
      go_wp2
      go_round
      case rel => exact ⟨j + 1, by omega, rfl, by go_num⟩
      case measure => simp [intOf]; omega
    · have hge : ¬ (j : Int) < n := by omega
      obtain rfl : j = n := by omega
      obtain ⟨n, rfl⟩ : ∃ n, n = j := ⟨_, rfl⟩
      clear AL hlt
      go_wp2_with fail
      refine (DA _).mono ?_
      rintro e W ⟨xb, rfl, hx, rfl⟩
      go_wp2_with fail
      refine (DB _).mono ?_
      rintro e W ⟨zb, rfl, hz, rfl⟩
      clear DA DB
      have hxs := hx.short
      have hzs := hz.short
      have hgs := gB_size n
      by_cases h5 : wh < 0
      · go_wp2
        go_ret
        exact ⟨rfl, hB.alloc hB.size _⟩
      by_cases h6 : 6 ≤ wh
      · go_wp2
        go_ret
        exact ⟨rfl, hB.alloc hB.size _⟩
      have hB4 := hB.alloc hB.size (.cells #[.string ⟨#[]⟩, .string ⟨#[32]⟩, .string ⟨#[9, 35, 32, 99]⟩, .string ⟨#[120]⟩, .string ⟨#[35]⟩, .string ⟨#[32, 120]⟩] 9)
      obtain ⟨S1, hS1, A1⟩ := add_str ⟨#[37, 89, 65, 77, 76]⟩ (gB n) (by have : (⟨#[37, 89, 65, 77, 76]⟩ : ByteArray).size = 5 := rfl; omega)
      have t1 : S1.size = 5 + n := by rw [hS1.2, gB_size]; rfl
      obtain ⟨S2, hS2, A2⟩ := add_str S1 xb (by omega)
      have t2 : S2.size ≤ 5 + n + 19 := by rw [hS2.2]; omega
      obtain ⟨S3, hS3, A3⟩ := add_str S2 ⟨#[46]⟩ (by have : (⟨#[46]⟩ : ByteArray).size = 1 := rfl; omega)
      have t3 : S3.size ≤ 5 + n + 20 := by rw [hS3.2]; show S2.size + 1 ≤ _; omega
      obtain ⟨S4, hS4, A4⟩ := add_str S3 zb (by omega)
      have t4 : S4.size ≤ 5 + n + 39 := by rw [hS4.2]; omega
      obtain rfl | rfl | rfl | rfl | rfl | rfl : wh = 0 ∨ wh = 1 ∨ wh = 2 ∨ wh = 3 ∨ wh = 4 ∨ wh = 5 := by omega
      · have hw0 : True := trivial
        obtain ⟨S5, hS5, A5⟩ := add_str S4 ⟨#[]⟩ (by have : (⟨#[]⟩ : ByteArray).size = 0 := rfl; omega)
        obtain ⟨D1, D2, D3, D4⟩ := ver_told (i := 0) (tl := []) (s := S5) hx hz hn10 (by rw [hS5.1, hS4.1, hS3.1, hS2.1, hS1.1, gB_data]; simp) (by decide) (by decide) (by intro c r h; cases h)
        have TX := dir_text S5 D1 D2
        clear hS1 hS2 hS3 hS4 hS5 D1 D2
        by_cases hz0 : n = 0
        · subst hz0
          clear D4
          have e9 : ((0 : Nat) : Int) = 0 := rfl
          rw [e9]
          rcases D3 rfl with HR | ⟨y, hy, HR⟩
          · have HR := congrArg dirV HR
            rw [dirV_none] at HR
            go_wp2_with (first | (go_at_call 17; refine (TX _).mono ?_; rintro e W5 ⟨la, lk, lc, ok, rfl, hB5, HDI⟩; have hB5 := hB4.trans (hB5.mono hB4.size); have DI := HDI W5 (Below.refl _ _); rw [HR] at DI) | (go_at_call 13; refine DI.mono ?_; rintro e W6 ⟨rfl, hB6⟩; have hB6 := hB5.trans (hB6.mono hB5.size)))
            go_ret
            exact ⟨rfl, hB6⟩
          · have HR := congrArg dirV HR
            rw [dirV_some] at HR
            have hy' : (y.toList == [89, 65, 77, 76]) = false := str_ne hy
            clear hy
            go_wp2_with (first | (go_at_call 17; refine (TX _).mono ?_; rintro e W5 ⟨la, lk, lc, ok, rfl, hB5, HDI⟩; have hB5 := hB4.trans (hB5.mono hB4.size); have DI := HDI W5 (Below.refl _ _); rw [HR] at DI) | (go_at_call 13; refine DI.mono ?_; rintro e W6 ⟨rfl, hB6⟩; have hB6 := hB5.trans (hB6.mono hB5.size)))
            go_ret
            exact ⟨rfl, hB6⟩
        · have hz0' : ((n : Int) == 0) = false := by simpa using hz0
          clear D3
          have HR := (D4 (by omega)).trans (if_neg (by decide +kernel))
          have HR := congrArg dirV HR
          rw [dirV_some] at HR
          go_wp2_with (first | (go_at_call 17; refine (TX _).mono ?_; rintro e W5 ⟨la, lk, lc, ok, rfl, hB5, HDI⟩; have hB5 := hB4.trans (hB5.mono hB4.size); have DI := HDI W5 (Below.refl _ _); rw [HR] at DI) | (go_at_call 13; refine DI.mono ?_; rintro e W6 ⟨rfl, hB6⟩; have hB6 := hB5.trans (hB6.mono hB5.size)))
          go_ret
          exact ⟨rfl, hB6⟩
      · have hw1 : True := trivial
        obtain ⟨S5, hS5, A5⟩ := add_str S4 ⟨#[32]⟩ (by have : (⟨#[32]⟩ : ByteArray).size = 1 := rfl; omega)
        obtain ⟨D1, D2, D3, D4⟩ := ver_told (i := 1) (tl := [32]) (s := S5) hx hz hn10 (by rw [hS5.1, hS4.1, hS3.1, hS2.1, hS1.1, gB_data]; simp) (by decide) (by decide) (by intro c r h; injection h with h1 h2; rw [← h1]; decide)
        have TX := dir_text S5 D1 D2
        clear hS1 hS2 hS3 hS4 hS5 D1 D2
        by_cases hz0 : n = 0
        · subst hz0
          clear D4
          have e9 : ((0 : Nat) : Int) = 0 := rfl
          rw [e9]
          rcases D3 rfl with HR | ⟨y, hy, HR⟩
          · have HR := congrArg dirV HR
            rw [dirV_none] at HR
            go_wp2_with (first | (go_at_call 17; refine (TX _).mono ?_; rintro e W5 ⟨la, lk, lc, ok, rfl, hB5, HDI⟩; have hB5 := hB4.trans (hB5.mono hB4.size); have DI := HDI W5 (Below.refl _ _); rw [HR] at DI) | (go_at_call 13; refine DI.mono ?_; rintro e W6 ⟨rfl, hB6⟩; have hB6 := hB5.trans (hB6.mono hB5.size)))
            go_ret
            exact ⟨rfl, hB6⟩
          · have HR := congrArg dirV HR
            rw [dirV_some] at HR
            have hy' : (y.toList == [89, 65, 77, 76]) = false := str_ne hy
            clear hy
            go_wp2_with (first | (go_at_call 17; refine (TX _).mono ?_; rintro e W5 ⟨la, lk, lc, ok, rfl, hB5, HDI⟩; have hB5 := hB4.trans (hB5.mono hB4.size); have DI := HDI W5 (Below.refl _ _); rw [HR] at DI) | (go_at_call 13; refine DI.mono ?_; rintro e W6 ⟨rfl, hB6⟩; have hB6 := hB5.trans (hB6.mono hB5.size)))
            go_ret
            exact ⟨rfl, hB6⟩
        · have hz0' : ((n : Int) == 0) = false := by simpa using hz0
          clear D3
          have HR := (D4 (by omega)).trans (if_neg (by decide +kernel))
          have HR := congrArg dirV HR
          rw [dirV_some] at HR
          go_wp2_with (first | (go_at_call 17; refine (TX _).mono ?_; rintro e W5 ⟨la, lk, lc, ok, rfl, hB5, HDI⟩; have hB5 := hB4.trans (hB5.mono hB4.size); have DI := HDI W5 (Below.refl _ _); rw [HR] at DI) | (go_at_call 13; refine DI.mono ?_; rintro e W6 ⟨rfl, hB6⟩; have hB6 := hB5.trans (hB6.mono hB5.size)))
          go_ret
          exact ⟨rfl, hB6⟩
      · have hw2 : True := trivial
        obtain ⟨S5, hS5, A5⟩ := add_str S4 ⟨#[9, 35, 32, 99]⟩ (by have : (⟨#[9, 35, 32, 99]⟩ : ByteArray).size = 4 := rfl; omega)
        obtain ⟨D1, D2, D3, D4⟩ := ver_told (i := 2) (tl := [9, 35, 32, 99]) (s := S5) hx hz hn10 (by rw [hS5.1, hS4.1, hS3.1, hS2.1, hS1.1, gB_data]; simp) (by decide) (by decide) (by intro c r h; injection h with h1 h2; rw [← h1]; decide)
        have TX := dir_text S5 D1 D2
        clear hS1 hS2 hS3 hS4 hS5 D1 D2
        by_cases hz0 : n = 0
        · subst hz0
          clear D4
          have e9 : ((0 : Nat) : Int) = 0 := rfl
          rw [e9]
          rcases D3 rfl with HR | ⟨y, hy, HR⟩
          · have HR := congrArg dirV HR
            rw [dirV_none] at HR
            go_wp2_with (first | (go_at_call 17; refine (TX _).mono ?_; rintro e W5 ⟨la, lk, lc, ok, rfl, hB5, HDI⟩; have hB5 := hB4.trans (hB5.mono hB4.size); have DI := HDI W5 (Below.refl _ _); rw [HR] at DI) | (go_at_call 13; refine DI.mono ?_; rintro e W6 ⟨rfl, hB6⟩; have hB6 := hB5.trans (hB6.mono hB5.size)))
            go_ret
            exact ⟨rfl, hB6⟩
          · have HR := congrArg dirV HR
            rw [dirV_some] at HR
            have hy' : (y.toList == [89, 65, 77, 76]) = false := str_ne hy
            clear hy
            go_wp2_with (first | (go_at_call 17; refine (TX _).mono ?_; rintro e W5 ⟨la, lk, lc, ok, rfl, hB5, HDI⟩; have hB5 := hB4.trans (hB5.mono hB4.size); have DI := HDI W5 (Below.refl _ _); rw [HR] at DI) | (go_at_call 13; refine DI.mono ?_; rintro e W6 ⟨rfl, hB6⟩; have hB6 := hB5.trans (hB6.mono hB5.size)))
            go_ret
            exact ⟨rfl, hB6⟩
        · have hz0' : ((n : Int) == 0) = false := by simpa using hz0
          clear D3
          have HR := (D4 (by omega)).trans (if_neg (by decide +kernel))
          have HR := congrArg dirV HR
          rw [dirV_some] at HR
          go_wp2_with (first | (go_at_call 17; refine (TX _).mono ?_; rintro e W5 ⟨la, lk, lc, ok, rfl, hB5, HDI⟩; have hB5 := hB4.trans (hB5.mono hB4.size); have DI := HDI W5 (Below.refl _ _); rw [HR] at DI) | (go_at_call 13; refine DI.mono ?_; rintro e W6 ⟨rfl, hB6⟩; have hB6 := hB5.trans (hB6.mono hB5.size)))
          go_ret
          exact ⟨rfl, hB6⟩
      · have hw3 : True := trivial
        obtain ⟨S5, hS5, A5⟩ := add_str S4 ⟨#[120]⟩ (by have : (⟨#[120]⟩ : ByteArray).size = 1 := rfl; omega)
        obtain ⟨D1, D2, D3, D4⟩ := ver_told (i := 3) (tl := [120]) (s := S5) hx hz hn10 (by rw [hS5.1, hS4.1, hS3.1, hS2.1, hS1.1, gB_data]; simp) (by decide) (by decide) (by intro c r h; injection h with h1 h2; rw [← h1]; decide)
        have TX := dir_text S5 D1 D2
        clear hS1 hS2 hS3 hS4 hS5 D1 D2
        by_cases hz0 : n = 0
        · subst hz0
          clear D4
          have e9 : ((0 : Nat) : Int) = 0 := rfl
          rw [e9]
          rcases D3 rfl with HR | ⟨y, hy, HR⟩
          · have HR := congrArg dirV HR
            rw [dirV_none] at HR
            go_wp2_with (first | (go_at_call 17; refine (TX _).mono ?_; rintro e W5 ⟨la, lk, lc, ok, rfl, hB5, HDI⟩; have hB5 := hB4.trans (hB5.mono hB4.size); have DI := HDI W5 (Below.refl _ _); rw [HR] at DI) | (go_at_call 13; refine DI.mono ?_; rintro e W6 ⟨rfl, hB6⟩; have hB6 := hB5.trans (hB6.mono hB5.size)))
            go_ret
            exact ⟨rfl, hB6⟩
          · have HR := congrArg dirV HR
            rw [dirV_some] at HR
            have hy' : (y.toList == [89, 65, 77, 76]) = false := str_ne hy
            clear hy
            go_wp2_with (first | (go_at_call 17; refine (TX _).mono ?_; rintro e W5 ⟨la, lk, lc, ok, rfl, hB5, HDI⟩; have hB5 := hB4.trans (hB5.mono hB4.size); have DI := HDI W5 (Below.refl _ _); rw [HR] at DI) | (go_at_call 13; refine DI.mono ?_; rintro e W6 ⟨rfl, hB6⟩; have hB6 := hB5.trans (hB6.mono hB5.size)))
            go_ret
            exact ⟨rfl, hB6⟩
        · have hz0' : ((n : Int) == 0) = false := by simpa using hz0
          clear D3
          have HR := (D4 (by omega)).trans (if_pos (by decide +kernel))
          have HR := congrArg dirV HR
          rw [dirV_none] at HR
          go_wp2_with (first | (go_at_call 17; refine (TX _).mono ?_; rintro e W5 ⟨la, lk, lc, ok, rfl, hB5, HDI⟩; have hB5 := hB4.trans (hB5.mono hB4.size); have DI := HDI W5 (Below.refl _ _); rw [HR] at DI) | (go_at_call 13; refine DI.mono ?_; rintro e W6 ⟨rfl, hB6⟩; have hB6 := hB5.trans (hB6.mono hB5.size)))
          go_ret
          exact ⟨rfl, hB6⟩
      · have hw4 : True := trivial
        obtain ⟨S5, hS5, A5⟩ := add_str S4 ⟨#[35]⟩ (by have : (⟨#[35]⟩ : ByteArray).size = 1 := rfl; omega)
        obtain ⟨D1, D2, D3, D4⟩ := ver_told (i := 4) (tl := [35]) (s := S5) hx hz hn10 (by rw [hS5.1, hS4.1, hS3.1, hS2.1, hS1.1, gB_data]; simp) (by decide) (by decide) (by intro c r h; injection h with h1 h2; rw [← h1]; decide)
        have TX := dir_text S5 D1 D2
        clear hS1 hS2 hS3 hS4 hS5 D1 D2
        by_cases hz0 : n = 0
        · subst hz0
          clear D4
          have e9 : ((0 : Nat) : Int) = 0 := rfl
          rw [e9]
          rcases D3 rfl with HR | ⟨y, hy, HR⟩
          · have HR := congrArg dirV HR
            rw [dirV_none] at HR
            go_wp2_with (first | (go_at_call 17; refine (TX _).mono ?_; rintro e W5 ⟨la, lk, lc, ok, rfl, hB5, HDI⟩; have hB5 := hB4.trans (hB5.mono hB4.size); have DI := HDI W5 (Below.refl _ _); rw [HR] at DI) | (go_at_call 13; refine DI.mono ?_; rintro e W6 ⟨rfl, hB6⟩; have hB6 := hB5.trans (hB6.mono hB5.size)))
            go_ret
            exact ⟨rfl, hB6⟩
          · have HR := congrArg dirV HR
            rw [dirV_some] at HR
            have hy' : (y.toList == [89, 65, 77, 76]) = false := str_ne hy
            clear hy
            go_wp2_with (first | (go_at_call 17; refine (TX _).mono ?_; rintro e W5 ⟨la, lk, lc, ok, rfl, hB5, HDI⟩; have hB5 := hB4.trans (hB5.mono hB4.size); have DI := HDI W5 (Below.refl _ _); rw [HR] at DI) | (go_at_call 13; refine DI.mono ?_; rintro e W6 ⟨rfl, hB6⟩; have hB6 := hB5.trans (hB6.mono hB5.size)))
            go_ret
            exact ⟨rfl, hB6⟩
        · have hz0' : ((n : Int) == 0) = false := by simpa using hz0
          clear D3
          have HR := (D4 (by omega)).trans (if_pos (by decide +kernel))
          have HR := congrArg dirV HR
          rw [dirV_none] at HR
          go_wp2_with (first | (go_at_call 17; refine (TX _).mono ?_; rintro e W5 ⟨la, lk, lc, ok, rfl, hB5, HDI⟩; have hB5 := hB4.trans (hB5.mono hB4.size); have DI := HDI W5 (Below.refl _ _); rw [HR] at DI) | (go_at_call 13; refine DI.mono ?_; rintro e W6 ⟨rfl, hB6⟩; have hB6 := hB5.trans (hB6.mono hB5.size)))
          go_ret
          exact ⟨rfl, hB6⟩
      · have hw5 : True := trivial
        obtain ⟨S5, hS5, A5⟩ := add_str S4 ⟨#[32, 120]⟩ (by have : (⟨#[32, 120]⟩ : ByteArray).size = 2 := rfl; omega)
        obtain ⟨D1, D2, D3, D4⟩ := ver_told (i := 5) (tl := [32, 120]) (s := S5) hx hz hn10 (by rw [hS5.1, hS4.1, hS3.1, hS2.1, hS1.1, gB_data]; simp) (by decide) (by decide) (by intro c r h; injection h with h1 h2; rw [← h1]; decide)
        have TX := dir_text S5 D1 D2
        clear hS1 hS2 hS3 hS4 hS5 D1 D2
        by_cases hz0 : n = 0
        · subst hz0
          clear D4
          have e9 : ((0 : Nat) : Int) = 0 := rfl
          rw [e9]
          rcases D3 rfl with HR | ⟨y, hy, HR⟩
          · have HR := congrArg dirV HR
            rw [dirV_none] at HR
            go_wp2_with (first | (go_at_call 17; refine (TX _).mono ?_; rintro e W5 ⟨la, lk, lc, ok, rfl, hB5, HDI⟩; have hB5 := hB4.trans (hB5.mono hB4.size); have DI := HDI W5 (Below.refl _ _); rw [HR] at DI) | (go_at_call 13; refine DI.mono ?_; rintro e W6 ⟨rfl, hB6⟩; have hB6 := hB5.trans (hB6.mono hB5.size)))
            go_ret
            exact ⟨rfl, hB6⟩
          · have HR := congrArg dirV HR
            rw [dirV_some] at HR
            have hy' : (y.toList == [89, 65, 77, 76]) = false := str_ne hy
            clear hy
            go_wp2_with (first | (go_at_call 17; refine (TX _).mono ?_; rintro e W5 ⟨la, lk, lc, ok, rfl, hB5, HDI⟩; have hB5 := hB4.trans (hB5.mono hB4.size); have DI := HDI W5 (Below.refl _ _); rw [HR] at DI) | (go_at_call 13; refine DI.mono ?_; rintro e W6 ⟨rfl, hB6⟩; have hB6 := hB5.trans (hB6.mono hB5.size)))
            go_ret
            exact ⟨rfl, hB6⟩
        · have hz0' : ((n : Int) == 0) = false := by simpa using hz0
          clear D3
          have HR := (D4 (by omega)).trans (if_pos (by decide +kernel))
          have HR := congrArg dirV HR
          rw [dirV_none] at HR
          go_wp2_with (first | (go_at_call 17; refine (TX _).mono ?_; rintro e W5 ⟨la, lk, lc, ok, rfl, hB5, HDI⟩; have hB5 := hB4.trans (hB5.mono hB4.size); have DI := HDI W5 (Below.refl _ _); rw [HR] at DI) | (go_at_call 13; refine DI.mono ?_; rintro e W6 ⟨rfl, hB6⟩; have hB6 := hB5.trans (hB6.mono hB5.size)))
          go_ret
          exact ⟨rfl, hB6⟩
end Go.Proofs.Ytgldejcneglpnaa
