/- DoubleBack, as it runs, where Write is known. -/
import Derived.Test.YtpiefdpcinjkpaaDoorBkp
set_option linter.unusedVariables false
set_option linter.unusedSimpArgs false
namespace Go.Proofs.YtpiefdpcinjkpaaDoor
open Go.RowKit Go.Shelf

theorem slice_one_to (p : Option Addr) (len cap s : Nat) (h1 : 1 ≤ s) (hs : s ≤ cap) (w2 : World) :
    (Instr.slice 25 (.slice p len cap) (some (.int .i64 1)) (some (.int .i64 s)) none).run Tryd.prog w2 = .ok (.slice (if cap = 1 then p else p.map (·.add 1)) (s - 1) (cap - 1)) w2 := by
  have h0 : (1 : Int) ≤ s := by omega
  have h2 : (s : Int) ≤ cap := by omega
  have u := Tryd.underlying25
  have z := Tryd.sizeOf3
  simp [go_sem, h0, h2]
theorem fix_bad {x : Int} (h : x < 0 ∨ 1114111 < x ∨ (55296 ≤ x ∧ x ≤ 57343)) : fixP x = 65533 := by
  unfold fixP pointP
  rw [if_neg]
  simp
  omega
theorem fix_ok {x : Int} (h0 : ¬ x < 0) (h1 : ¬ 1114111 < x) (h2 : ¬ (55296 ≤ x ∧ x ≤ 57343)) : fixP x = x := by
  unfold fixP pointP
  rw [if_pos]
  simp
  omega

theorem Read_oneL (q : Option Addr) (t T : List Int) (c : Nat) (W : World) (hI : Is W q t) (hc : t.length ≤ c) (hm : c ≤ maxLen) (ht : t.length ≤ 1000000) (hT : Tab W) (hf : flP true 0 t = 0) (hX : (itP true 0 t).map (·.1) = T) :
    Calls Tryd.prog 11 #[.slice (some ⟨W.heap.size, 0, none⟩) 1 1] (W.alloc (.cells #[.slice q t.length c] 25)) fun e w' => ∃ q' c', e = .returned (.tuple #[.slice q' T.length c', .int .i64 0]) ∧ Is w' q' T ∧ Below W.heap.size W w' := by
  refine (Read_one q t c W hI hc hm (by omega) hT).mono ?_
  rintro e w' ⟨hb, (⟨h, -⟩ | ⟨-, v, rfl, ho⟩)⟩
  · exact absurd hf h
  · rw [hX] at ho
    obtain ⟨q', c', rfl, hI'⟩ := ho.read
    exact ⟨q', c', rfl, hI', hb⟩

set_option maxRecDepth 100000 in
set_option maxHeartbeats 1000000 in
theorem back_law (q : Option Addr) (l : List Int) (c : Nat) (w : World) (hc : l.length ≤ c) (hm : c ≤ maxLen) (hI : Is w q l) (hT : Tab w)
    (WR : l.length ≤ 300 → ∀ W, Below w.heap.size w W → Calls Tryd.prog 17 #[.slice q l.length c] W fun e w' => ∃ v, e = .returned v ∧ Owns w' W.heap.size v (34 :: bodyP l ++ [34]) ∧ Below W.heap.size W w') :
    Calls Tryd.prog 5 #[.slice q l.length c] w fun e w' => e = .returned (.bool true) ∧ Below w.heap.size w w' := by
  have AL := alive_any w hT
  have hm2 : (c : Int) ≤ 9223372036854775807 := by unfold maxLen at hm; omega
  have hc2 : (l.length : Int) ≤ c := by omega
  by_cases hn : l.length ≤ 300
  rotate_left
  · have hn' : (300 : Int) < l.length := by omega
    go_enter Tryd.func5, Tryd.ntmps5
    go_wp2_with (first | (go_at_call 9; refine AL.mono ?_; rintro e W1 ⟨rfl, hb⟩))
    go_ret
    exact ⟨rfl, hb⟩
  have hn' : ¬ (300 : Int) < l.length := by omega
  have hbl := body_len l
  have hE := end_body l 0
  obtain ⟨hR1, hR2⟩ := it_body l
  have hG : ∀ j, j < (bodyP l).length + 2 → goodP (iAt (34 :: bodyP l ++ [34]) j) = true := fun j hj => by
    have hmem : iAt (34 :: bodyP l ++ [34]) j ∈ 34 :: bodyP l ++ [34] := by
      have hj' : j < (34 :: bodyP l ++ [34]).length := by simpa using hj
      unfold iAt
      rw [List.getElem?_eq_getElem hj', Option.getD_some]
      exact List.getElem_mem hj'
    rcases List.mem_append.1 hmem with h | h
    · rcases List.mem_cons.1 h with h | h
      · rw [h]; decide
      · exact body_good l _ h
    · rw [List.mem_singleton.1 h]; decide
  have hLE : (34 :: bodyP l ++ [34]).length = (bodyP l).length + 2 := by simp
  have h0 : iAt (34 :: bodyP l ++ [34]) 0 = 34 := rfl
  have hZ : iAt (34 :: bodyP l ++ [34]) ((bodyP l).length + 1) = 34 := by
    unfold iAt
    rw [List.getElem?_append_right (by simp)]
    simp
  have hD : (34 :: bodyP l ++ [34]).drop 1 = bodyP l ++ [34] := rfl
  have hTk : (bodyP l ++ [34]).take (bodyP l).length = bodyP l := by simp
  have hD2 : (bodyP l ++ [34]).length = (bodyP l).length + 1 := by simp
  rw [Nat.zero_add] at hE
  generalize bodyP l = B at *
  have hBn : (B.length : Int) ≤ 1800 := by omega
  have WR' : ∀ W, Below w.heap.size w W → Calls Tryd.prog 17 #[.slice q l.length c] W fun e w' => Below w.heap.size w w' ∧ ∃ b o c2, e = .returned (.slice (some ⟨b, o, none⟩) (B.length + 2) c2) ∧ B.length + 2 ≤ c2 ∧ c2 ≤ maxLen ∧ Is w' (some ⟨b, o, none⟩) (34 :: B ++ [34]) ∧ (∀ j, j < B.length + 2 → w'.cell? ⟨b, o + j, none⟩ = some (.int .i64 (iAt (34 :: B ++ [34]) j))) := fun W h => (WR hn W h).mono (by
    rintro e w' ⟨v, rfl, ho, hb⟩
    obtain ⟨a2, k2, c2, rfl⟩ := ownsRow_form ho
    obtain ⟨i2, e2, l2, m2⟩ := is_of_row ho
    rw [hLE] at e2
    subst e2
    obtain ⟨b, o, rfl, hu⟩ := i2.at (by rw [hLE]; omega)
    exact ⟨h.trans (hb.mono h.size), b, o, c2, rfl, l2, m2, i2, fun j hj => hu j (by rw [hLE]; exact hj)⟩)
  generalize 34 :: B ++ [34] = X at *
  have HLE : Hid (X.length = B.length + 2) := hLE
  clear WR hLE
  have hn2 : ¬ ((B.length : Int) + 2 < 2) := by omega
  have hdn : decide ((300 : Int) < l.length) = false := decide_eq_false (by omega)
  have hdb : decide ((B.length : Int) + 2 < 2) = false := decide_eq_false (by omega)
  go_enter Tryd.func5, Tryd.ntmps5
  go_wp2_with (first | (go_at_call 9; refine AL.mono ?_; rintro e W1 ⟨rfl, hb1⟩) | (go_at_call 17; refine (WR' _ hb1).mono ?_; rintro e W2 ⟨hb2, b, o, c2, rfl, hl2, hm2', hI2, hu⟩; have d0 := hu 0 (by omega); have d1 := hu (B.length + 1) (by omega); rw [h0, Nat.add_zero] at d0; rw [hZ] at d1; have HU : Hid (∀ j, j < B.length + 2 → W2.cell? ⟨b, o + j, none⟩ = some (.int .i64 (iAt X j))) := hu; clear hZ h0 hu))
  clear AL WR'
  try rw [show B.length + 2 - 1 = B.length + 1 from rfl]
  try rw [show (B.length : Int) + 2 - 1 = (B.length : Int) + 1 by omega]
  go_loop [6] (fun iv => ∃ (k : Nat), k ≤ B.length + 2 ∧ iv = .int .i64 k ∧ Hid True) (fun iv => B.length + 2 - (intOf iv).toNat)
  case atStart => exact ⟨0, Nat.zero_le _, rfl, trivial⟩
  case round =>
    obtain ⟨k, hk, rfl, -⟩ := hrel
    by_cases hlt : k < B.length + 2
    · have hli : (k : Int) < (B.length : Int) + 2 := by omega
      have e0 := HU.out k hlt
      have hg := hG k hlt
      have RP := rprint_any (iAt X k)
      generalize iAt X k = x at e0 hg RP
      unfold goodP at hg
      simp only [Bool.and_eq_true, Bool.not_eq_true', decide_eq_false_iff_not, not_or] at hg
      obtain ⟨hp, g1, g2, g3, g4, g5, g6, g7⟩ := hg
      have f1 : (x == 9) = false := by simpa using g1
      have f2 : (x == 10) = false := by simpa using g2
      have f3 : (x == 13) = false := by simpa using g3
      have f4 : (x == 133) = false := by simpa using g4
      have f5 : (x == 65279) = false := by simpa using g5
      have f6 : (x == 8232) = false := by simpa using g6
      have f7 : (x == 8233) = false := by simpa using g7
      rw [hp] at RP
      clear hp HU hG d0 d1 hE hR1 hR2 hD hTk hD2
      go_wp2_with (first | (go_at_call 18; refine (RP _).mono ?_; rintro e W9 ⟨rfl, rfl⟩))
      go_round
      case rel => exact ⟨k + 1, by omega, by go_num, trivial⟩
      case measure => simp [intOf]; omega
    · obtain rfl : k = B.length + 2 := by omega
      have hli : ¬ ((B.length : Int) + 2 < (B.length : Int) + 2) := by omega
      have hc21 : ¬ c2 = 1 := by omega
      have hI3 := hI2.from c2 1 (by rw [HLE.out]; omega)
      have S1 : ∀ W, (Instr.slice 25 (.slice (some ⟨b, o, none⟩) (B.length + 2) c2) (some (.int .i64 1)) none none).run Tryd.prog W = .ok (.slice (if c2 = 1 then some ⟨b, o, none⟩ else (some (⟨b, o, none⟩ : Addr)).map (·.add 1)) (B.length + 1) (c2 - 1)) W := fun W => slice_from (some ⟨b, o, none⟩) (B.length + 2) c2 1 (by omega) (by omega) W
      have S2 : ∀ W, (Instr.slice 25 (.slice (some ⟨b, o, none⟩) (B.length + 2) c2) (some (.int .i64 1)) (some (.int .i64 ((B.length : Int) + 1))) none).run Tryd.prog W = .ok (.slice (if c2 = 1 then some ⟨b, o, none⟩ else (some (⟨b, o, none⟩ : Addr)).map (·.add 1)) B.length (c2 - 1)) W := fun W => slice_one_to (some ⟨b, o, none⟩) (B.length + 2) c2 (B.length + 1) (by omega) (by omega) W
      have S3 : ∀ W, (Instr.slice 25 (.slice (some ⟨b, o, none⟩) (B.length + 2) c2) (some (.int .i64 1)) (some (.int .i64 ((B.length : Int) + 2 - 1))) none).run Tryd.prog W = .ok (.slice (if c2 = 1 then some ⟨b, o, none⟩ else (some (⟨b, o, none⟩ : Addr)).map (·.add 1)) B.length (c2 - 1)) W := fun W => by
        rw [show (B.length : Int) + 2 - 1 = (B.length : Int) + 1 by omega]; exact S2 W
      rw [hD] at hI3
      generalize (if c2 = 1 then some (⟨b, o, none⟩ : Addr) else (some (⟨b, o, none⟩ : Addr)).map (·.add 1)) = q3 at S1 S2 S3 hI3
      have hI4 := hI3.take B.length
      rw [hTk] at hI4
      have EA := End_any q3 (B ++ [34]) (c2 - 1) W2 (by omega) hI3
      rw [hE, hD2] at EA
      have RD := Read_oneL q3 B (l.map fixP) (c2 - 1) W2 hI4 (by omega) (by omega) (by omega) (hT.on hb2) hR1 hR2
      rw [List.length_map] at RD
      have hIl := hI.on hb2
      simp only [endV] at EA
      have hk2 : ((B.length : Int) == (B.length : Int) + 2 - 2) = true := by simp
      clear HU hG d0 d1 hE hR1 hR2 hD hTk hD2 hI2 hI3 hI4 hI hT hc21 hk hlt
      go_wp2_with (first | (go_at_call 15; refine EA.mono ?_; rintro e W3 ⟨rfl, rfl⟩) | (go_at_call 11; refine RD.mono ?_; rintro e W4 ⟨q4, c4, rfl, hI4, hb4⟩) | (go_at_call 13; refine (num_any _ _).mono ?_; rintro e W30 ⟨rfl, rfl⟩))
      have hb24 := hb2.trans (hb4.mono hb2.size)
      have hIl4 := hIl.on hb4
      clear EA RD S1 S2 S3 hIl
      go_loop [11, 12] (fun iv _ => ∃ (k : Nat), k ≤ l.length ∧ iv = .int .i64 k ∧ Hid True) (fun iv _ => l.length - (intOf iv).toNat)
      case atStart => exact ⟨0, Nat.zero_le _, rfl, trivial⟩
      case round =>
        obtain ⟨k, hk, rfl, -⟩ := hrel
        by_cases hlt : k < l.length
        · have hli7 : (k : Int) < l.length := by omega
          obtain ⟨b5, o5, rfl, hu5⟩ := hIl4.at (by omega)
          obtain ⟨b6, o6, rfl, hu6⟩ := hI4.at (by rw [List.length_map]; omega)
          have e0 := hu5 k hlt
          have e1 := hu6 k (by rw [List.length_map]; exact hlt)
          have hmp : iAt (l.map fixP) k = fixP (iAt l k) := by
            unfold iAt
            rw [List.getElem?_map, List.getElem?_eq_getElem hlt]
            rfl
          rw [hmp] at e1
          generalize iAt l k = x at e0 e1
          clear hu5 hu6 hmp hIl4 hI4
          have fin : ∀ y : Int, (y != y) = false := fun y => by simp
          by_cases g0 : x < 0
          · rw [fix_bad (.inl g0)] at e1
            go_wp2
            go_round
            case rel => exact ⟨k + 1, by omega, by go_num, trivial⟩
            case measure => simp [intOf]; omega
          · by_cases g1 : 1114111 < x
            · rw [fix_bad (.inr (.inl g1))] at e1
              go_wp2
              go_round
              case rel => exact ⟨k + 1, by omega, by go_num, trivial⟩
              case measure => simp [intOf]; omega
            · by_cases g2 : 55296 ≤ x
              · by_cases g3 : x ≤ 57343
                · rw [fix_bad (.inr (.inr ⟨g2, g3⟩))] at e1
                  go_wp2
                  go_round
                  case rel => exact ⟨k + 1, by omega, by go_num, trivial⟩
                  case measure => simp [intOf]; omega
                · rw [fix_ok g0 g1 (fun h => g3 h.2)] at e1
                  go_wp2
                  go_round
                  case rel => exact ⟨k + 1, by omega, by go_num, trivial⟩
                  case measure => simp [intOf]; omega
              · rw [fix_ok g0 g1 (fun h => g2 h.1)] at e1
                go_wp2
                go_round
                case rel => exact ⟨k + 1, by omega, by go_num, trivial⟩
                case measure => simp [intOf]; omega
        · obtain rfl : k = l.length := by omega
          clear hIl4 hI4
          go_wp2
          go_ret
          exact ⟨rfl, hb24⟩
end Go.Proofs.YtpiefdpcinjkpaaDoor
