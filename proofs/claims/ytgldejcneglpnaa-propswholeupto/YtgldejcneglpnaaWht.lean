/- PropsWhole's walk, with words. -/
import Derived.Test.YtgldejcneglpnaaWha
set_option linter.unusedVariables false
set_option linter.unusedSimpArgs false
namespace Go.Proofs.Ytgldejcneglpnaa
open Go.RowKit Go.Shelf

set_option maxRecDepth 100000 in
set_option maxHeartbeats 4000000 in
theorem whole_tt (s : ByteArray) (w : World) (hs : s.size ≤ 200) (hrv : rvP s.data.toList = true) :
    Calls Try.prog 6 #[.string s, .bool true] w fun e w' => e = .returned (.bool true) ∧ Below w.heap.size w w' := by
  have AL := alive_any w
  have RV := fun W => rValid_any s W (by omega)
  rw [hrv] at RV
  have hs' : ¬ (200 : Int) < s.size := by omega
  have honly : onlyP (zs s.data.toList) = true := by rw [valid_eq] at hrv; unfold onlyP; rw [zs_len]; exact hrv
  obtain ⟨hp, hcov⟩ := of_decide_eq_true honly
  have hasc : ∀ b ∈ s.data.toList, b.toNat < 128 := fun b hb => by
    obtain ⟨j, hj, rfl⟩ := List.mem_iff_getElem.1 hb
    have := cover_low (zs s.data.toList) _ 0 (Nat.le_refl _) hcov j (Nat.zero_le _) (by rw [zs_len]; exact hj)
    rw [zs_at] at this
    have h6 : bt s.data.toList j = (s.data.toList[j]).toNat := by unfold bt; rw [List.getElem?_eq_getElem hj]; rfl
    omega
  have hp2 : 0 < s.size := by rw [zs_len] at hp; simpa using hp
  have TX := fun W => text_own s (by omega) hasc W
  obtain ⟨S1, hS1, A1⟩ := add_str ⟨#[60]⟩ s (by have : (⟨#[60]⟩ : ByteArray).size = 1 := rfl; omega)
  obtain ⟨S2, hS2, A2⟩ := add_str ⟨#[33, 33]⟩ s (by have : (⟨#[33, 33]⟩ : ByteArray).size = 2 := rfl; omega)
  obtain ⟨S3, hS3, A3⟩ := add_str ⟨#[33, 104, 33]⟩ s (by have : (⟨#[33, 104, 33]⟩ : ByteArray).size = 3 := rfl; omega)
  have X1 : txt (60 :: zs s.data.toList) = S1 := txt_head [60] s S1 (by decide) hasc hS1.1 _ rfl
  have hsl : s.data.toList.length = s.size := by simp
  clear hrv hp hcov
  go_enter Try.func6, Try.ntmps6
  go_wp2_with fail
  refine AL.mono ?_
  rintro e W1 ⟨rfl, hB1⟩
  go_wp2_with fail
  refine (RV _).mono ?_
  rintro e W2 ⟨rfl, hB2⟩
  have hB2 := hB1.trans (hB2.mono hB1.size)
  go_wp2_with fail
  refine (TX _).mono ?_
  rintro e W3 ⟨la, lc, ok, rfl, hB3, hI3⟩
  have hB3 := hB2.trans (hB3.mono hB2.size)
  clear AL RV TX hB1 hB2
  obtain ⟨a1, k1, c1, w1, R1, O1, B1⟩ := app_is (w0 := W3) lc (lit2 W3 33 60) ((Below.refl _ W3).alloc (Nat.le_refl _) _) (hI3.alloc _) (by rw [zs_len]; simp; omega)
  rw [zs_len, hsl] at R1
  obtain ⟨a2, k2, c2, w2, R2, O2, B2⟩ := app_is (w0 := W3) 3 (O1.alloc _) (B1.alloc B1.size _) (is3 w1 62 32 120) (by rw [List.length_append, zs_len]; simp; omega)
  rw [List.append_assoc] at O2
  have G1 := tag_own O2 B2 (by simp [zs_len]; omega) (whole_angles honly)
  rw [X1, zs_len, hsl] at G1
  clear O1 O2 B1 X1 honly
  have e3 : ((s.size + 3 : Nat) : Int) = (s.size : Int) + 3 := by omega
  have e4 : ((s.size + 2 : Nat) : Int) = (s.size : Int) + 2 := by omega
  rw [e3] at G1
  have hs4 : (s.size : Int) ≤ 200 := by omega
  go_wp2_with (first | (at_builtin; refine wpList_append_run rfl _ _ 22 rfl rfl rfl R1 ?_; clear R1) | (at_builtin; refine wpList_append_run rfl _ _ 22 rfl rfl rfl R2 ?_; clear R2))
  refine G1.mono ?_
  rintro e W4 ⟨rfl, hB4⟩
  have hI4 := hI3.on hB4
  have hB4 := hB3.trans (hB4.mono hB3.size)
  clear G1 B2
  go_wp2_with fail
  have hl3 : (zs s.data.toList).length = s.size := by rw [zs_len]; exact hsl
  have hl3 : Hid _ := hl3
  have hsl : Hid _ := hsl
  go_loop [13] (fun iv => ∃ (j : Nat), j ≤ s.size ∧ iv = .int .i64 j ∧ Hid (∀ i, i < j → wordP (iAt (zs s.data.toList) i) = true)) (fun iv => s.size - (intOf iv).toNat)
  case atStart => exact ⟨0, Nat.zero_le _, rfl, fun i hi => by omega⟩
  case round =>
    obtain ⟨j, hj, rfl, HJ⟩ := hrel
    by_cases hlt : j < s.size
    · have hli : (j : Int) < s.size := by omega
      have cj : ∃ b o, la = some ⟨b, o, none⟩ ∧ W4.cell? ⟨b, o + j, none⟩ = some (.int .i64 (iAt (zs s.data.toList) j)) := by
        obtain ⟨b, o, e, hu⟩ := hI4.at (by rw [hl3.out]; omega)
        exact ⟨b, o, e, hu j (by rw [hl3.out]; exact hlt)⟩
      obtain ⟨b, o, rfl, cj⟩ := cj
      have WD := rword_any (iAt (zs s.data.toList) j)
      cases hz : wordP (iAt (zs s.data.toList) j) with
      | true =>
        rw [hz] at WD
        have HN : Hid (∀ i, i < j + 1 → wordP (iAt (zs s.data.toList) i) = true) := fun i hi => by
          by_cases e : i = j
          · subst e; exact hz
          · exact HJ.out i (by omega)
        generalize iAt (zs s.data.toList) j = x at cj WD
        clear hz HJ hI3 hI4
        go_wp2_with (first | (go_at_call 18; refine (WD _).mono ?_; rintro e W4 ⟨rfl, rfl⟩))
        go_round
        case rel => exact ⟨j + 1, by omega, by go_num, HN⟩
        case measure => simp [intOf]; omega
      | false =>
        rw [hz] at WD
        generalize iAt (zs s.data.toList) j = x at cj WD
        clear hz HJ hI3 hI4
        go_wp2_with (first | (go_at_call 18; refine (WD _).mono ?_; rintro e W4 ⟨rfl, rfl⟩))
        go_ret
        exact ⟨rfl, hB4⟩
    · have hge : ¬ (j : Int) < s.size := by omega
      have HW : Hid (∀ x ∈ zs s.data.toList, wordP x = true) := fun x hx => by
        obtain ⟨i, hi, rfl⟩ := List.mem_iff_getElem.1 hx
        have := HJ.out i (by rw [hl3.out] at hi; omega)
        unfold iAt at this
        rw [List.getElem?_eq_getElem hi] at this
        exact this
      clear HJ hlt hI3
      have hHI : Is ((W4.alloc (.cells #[.int .i64 33] 3)).alloc (.cells #[.int .i64 33, .int .i64 33] 3)) (some ⟨W4.heap.size + 1, 0, none⟩) [33, 33] := by have := is2 (W4.alloc (.cells #[.int .i64 33] 3)) 33 33; rw [World.size_alloc] at this; exact this
      have hB5 : Below w.heap.size w ((W4.alloc (.cells #[.int .i64 33] 3)).alloc (.cells #[.int .i64 33, .int .i64 33] 3)) := (hB4.alloc hB4.size _).alloc (by simp; have := hB4.size; omega) _
      have hI5 : Is ((W4.alloc (.cells #[.int .i64 33] 3)).alloc (.cells #[.int .i64 33, .int .i64 33] 3)) la (zs s.data.toList) := (hI4.alloc _).alloc _
      obtain ⟨W5, hW5⟩ : ∃ W5, (W4.alloc (.cells #[.int .i64 33] 3)).alloc (.cells #[.int .i64 33, .int .i64 33] 3) = W5 := ⟨_, rfl⟩
      rw [hW5] at hHI hB5 hI5
      obtain ⟨a3, k3, c3, w3, R3, O3, B3⟩ := app_is (w0 := W5) (v := .slice none 0 0) (A := []) (q := some ⟨W4.heap.size + 1, 0, none⟩) 2 (World.ownsRow_nil _ _ 3 1) (Below.refl _ W5) hHI (by decide)
      rw [List.nil_append] at O3
      obtain ⟨a4, k4, c4, w4, R4, O4, B4⟩ := app_is lc O3 B3 (hI5.on B3) (by rw [zs_len]; simp; omega)
      rw [zs_len, show s.data.toList.length = s.size by simp] at R4
      obtain ⟨a5, k5, c5, w5, R5, O5, B5⟩ := app_is (w0 := W5) 2 (O4.alloc _) (B4.alloc B4.size _) (is2 w4 32 120) (by rw [List.length_append, zs_len]; simp; omega)
      rw [List.append_assoc] at O5
      have G2 := tag_own O5 B5 (by simp [zs_len]; omega) (whole_two (by rw [zs_len]; simp; omega) HW.out)
      have X2 : txt (33 :: 33 :: zs s.data.toList) = S2 := txt_head [33, 33] s S2 (by decide) hasc hS2.1 _ rfl
      rw [X2, zs_len, show s.data.toList.length = s.size by simp] at G2
      clear O3 O4 O5 B3 B4 X2
      go_wp2_with (first | (at_builtin; refine wpList_append_run rfl _ _ 22 rfl rfl rfl R3 ?_; clear R3) | (at_builtin; refine wpList_append_run rfl _ _ 22 rfl rfl rfl R4 ?_; clear R4) | (at_builtin; refine wpList_append_run rfl _ _ 22 rfl rfl rfl R5 ?_; clear R5))
      refine G2.mono ?_
      rintro e W6 ⟨rfl, hB6⟩
      have hI6 := hI5.on hB6
      have hH6 := hHI.on hB6
      have hB6' := hB5.trans (hB6.mono hB5.size)
      obtain ⟨a6, k6, c6, w6, R6, O6, B6⟩ := app_is (w0 := W6) lc (lit3 W6 33 104 33) ((Below.refl _ W6).alloc (Nat.le_refl _) _) (hI6.alloc _) (by rw [zs_len]; simp; omega)
      rw [zs_len, show s.data.toList.length = s.size by simp] at R6
      obtain ⟨a7, k7, c7, w7, R7, O7, B7⟩ := app_is (w0 := W6) 1 (O6.alloc _) (B6.alloc B6.size _) (is1 w6 44) (by rw [List.length_append, zs_len]; simp; omega)
      obtain ⟨a8, k8, c8, w8, R8, O8, B8⟩ := app_is (w0 := W6) 1 (O7.alloc _) (B7.alloc B7.size _) (is1 w7 120) (by rw [List.length_append, List.length_append, zs_len]; simp; omega)
      rw [List.append_assoc, List.append_assoc, show ([44] ++ [120] : List Int) = [44, 120] from rfl] at O8
      have G3 := tag_own O8 B8 (by simp [zs_len]; omega) (whole_hand (by rw [zs_len]; simp; omega) HW.out)
      have X3 : txt (33 :: 104 :: 33 :: zs s.data.toList) = S3 := txt_head [33, 104, 33] s S3 (by decide) hasc hS3.1 _ rfl
      rw [X3, zs_len, show s.data.toList.length = s.size by simp] at G3
      have BYH : Hid (∀ W, Below W6.heap.size W6 W → Calls Try.prog 19 #[.slice (some ⟨W4.heap.size + 1, 0, none⟩) 2 2] W fun e w' => ∃ v, e = .returned v ∧ w'.ownsRow W.heap.size 5 1 v (encZ [33, 33]).length ((encZ [33, 33]).map (.int .u8)) ∧ Below W.heap.size W w') := fun W hW => refBytes_any (some ⟨W4.heap.size + 1, 0, none⟩) [33, 33] 2 W (by decide) (hH6.on hW) (hH6.on hW).lt
      have HSH : Hid (∀ (B : Nat) (w1 : World) v, w1.ownsRow B 5 1 v (encZ [33, 33]).length ((encZ [33, 33]).map (.int .u8)) → (convert 33 9 v).run Try.prog w1 = .ok (.string ⟨#[33, 33]⟩) w1) := fun B w1 v h => by have h7 := rtxt h; rw [show txt [33, 33] = ⟨#[33, 33]⟩ by decide +kernel] at h7; exact h7
      generalize (encZ [33, 33]) = Z at BYH HSH
      clear O6 O7 O8 B6 B7 X3 HW hI5 hI6 hH6 hHI
      go_wp2_with (first | (at_builtin; refine wpList_append_run rfl _ _ 22 rfl rfl rfl R6 ?_; clear R6) | (at_builtin; refine wpList_append_run rfl _ _ 22 rfl rfl rfl R7 ?_; clear R7) | (at_builtin; refine wpList_append_run rfl _ _ 22 rfl rfl rfl R8 ?_; clear R8))
      refine G3.mono ?_
      rintro e W7 ⟨rfl, hB7⟩
      have BY := BYH.out W7 hB7
      clear BYH
      go_wp2_with (first | (go_at_call 19; refine BY.mono ?_; rintro e W8 ⟨v, rfl, ho, hB8⟩; have HSS := HSH.out _ _ _ ho))
      go_ret
      exact ⟨rfl, (hB6'.trans (hB7.mono hB6'.size)).trans (hB8.mono (hB6'.trans (hB7.mono hB6'.size)).size)⟩
end Go.Proofs.Ytgldejcneglpnaa
