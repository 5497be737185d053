/- DoublePlain: printed signs stand as they are. -/
import Derived.Test.YtpiefdpcinjkpaaDoorOne
import Derived.Test.YtpiefdpcinjkpaaDoorAlv
import Derived.Laws.OwnMore
set_option linter.unusedVariables false
set_option linter.unusedSimpArgs false
namespace Go.Proofs.YtpiefdpcinjkpaaDoor
open Go.RowKit Go.Shelf

theorem owns_lit1 (w : World) (x : Int) : Owns (w.alloc (.cells #[.int .i64 x] 3)) w.heap.size (.slice (some ⟨w.heap.size, 0, none⟩) 1 1) [x] :=
  World.ownsRow_lit (base := w.heap.size) (e := 3) (size := 1) w #[.int .i64 x] 1 (Nat.le_refl _) (by unfold maxLen; omega) rfl

theorem stands_point {c : Int} (h : standsP c = true) : pointP c = true := by
  unfold standsP oddP printP at h
  unfold pointP
  simp at h ⊢
  omega

set_option maxRecDepth 100000 in
set_option maxHeartbeats 1000000 in
/-- Write of a text whose signs all stand. -/
theorem Write_plain (q : Option Addr) (t : List Int) (c : Nat) (w : World) (hn : t.length ≤ 1000000) (hI : Is w q t) (hs : ∀ x ∈ t, standsP x = true) :
    Calls Tryd.prog 17 #[.slice q t.length c] w fun e w' => ∃ v, e = .returned v ∧ Owns w' w.heap.size v (34 :: t ++ [34]) ∧ Below w.heap.size w w' := by
  have hn2 : (t.length : Int) ≤ 1000000 := by omega
  have h0 := owns_lit1 w 34
  have hb0 := (Below.refl _ w).alloc (Nat.le_refl _) (.cells #[.int .i64 34] 3)
  go_enter Tryd.func17, Tryd.ntmps17
  go_wp2
  generalize w.alloc (.cells #[.int .i64 34] 3) = W0 at h0 hb0
  go_loopw [3, 9] (fun ov iv wr => ∃ (k : Nat), k ≤ t.length ∧ iv = .int .i64 k ∧ Owns wr w.heap.size ov (34 :: t.take k) ∧ Below w.heap.size w wr) (fun _ iv _ => t.length - (intOf iv).toNat)
  case atStart => exact ⟨0, Nat.zero_le _, rfl, by simpa using h0, hb0⟩
  case round =>
    obtain ⟨k, hk, rfl, ho, hb⟩ := hrel
    obtain ⟨va, vk, vq, rfl⟩ := ownsRow_form ho
    by_cases hlt : k < t.length
    · have hli : (k : Int) < t.length := by omega
      obtain ⟨b, o, rfl, hu⟩ := (hI.on hb).at (by omega)
      have c0 := hu k hlt
      have hst : standsP (iAt t k) = true := hs _ (by simp [iAt, hlt])
      have IP := isPoint_any (iAt t k)
      rw [stands_point hst] at IP
      have ST := stands_any (iAt t k)
      rw [hst] at ST
      have HT : Hid (34 :: t.take (k + 1) = (34 :: t.take k) ++ [iAt t k]) := by show _ = _; rw [take_more' hlt]; rfl
      have hlk : (34 :: t.take k).length ≤ 1000001 := by simp; omega
      generalize 34 :: t.take k = pre at ho HT hlk
      generalize iAt t k = x at c0 IP ST HT
      obtain ⟨v4, W4, hr4, ho4, hb4⟩ := push1w ho hb.size (by omega) x
      obtain ⟨v4a, v4k, v4c, rfl⟩ := ownsRow_form ho4
      clear hu hst
      go_wp2_with (first | (go_at_call 23; refine (IP _).mono ?_; rintro e wr ⟨rfl, rfl⟩) | (go_at_call 24; refine (ST _).mono ?_; rintro e wr ⟨rfl, rfl⟩) | (at_builtin; refine wpList_append_run (u := .slice va vk vq) (y := .slice (some ⟨wr.heap.size, 0, none⟩) 1 1) rfl _ _ 25 rfl rfl rfl hr4 ?_; clear hr4))
      go_roundw
      case rel => exact ⟨k + 1, by omega, by go_num, by rw [HT.out]; exact ho4, hb.trans hb4⟩
      case measure => simp [intOf]; omega
    · obtain rfl : k = t.length := by omega
      rw [List.take_length] at ho
      obtain ⟨v4, W4, hr4, ho4, hb4⟩ := push1w ho hb.size (by simp; omega) 34
      obtain ⟨v4a, v4k, v4c, rfl⟩ := ownsRow_form ho4
      go_wp2_with (first | (at_builtin; refine wpList_append_run (u := .slice va vk vq) (y := .slice (some ⟨wr.heap.size, 0, none⟩) 1 1) rfl _ _ 25 rfl rfl rfl hr4 ?_; clear hr4))
      go_ret
      exact ⟨_, rfl, ho4, hb.trans hb4⟩

theorem stands_no92 {t : List Int} (h : ∀ x ∈ t, standsP x = true) : ∀ x ∈ t, x ≠ 92 := fun x hx e => by
  have := h x hx
  subst e
  simp [standsP, oddP] at this

theorem Owns.read {w : World} {base : Nat} {v : Value} {t : List Int} (h : Owns w base v t) : ∃ q c, v = .slice q t.length c ∧ Is w q t := by
  obtain ⟨q, k, c, rfl⟩ := ownsRow_form h
  obtain ⟨h1, rfl, -, -⟩ := is_of_row h
  exact ⟨q, c, rfl, h1⟩
theorem belowN {n₀ : Nat} {A B : World} (h : Below n₀ A B) (k : Nat) : Below n₀ A (B.drewN k) := ⟨h.os, h.tape, h.output, h.size, h.block⟩

set_option maxRecDepth 100000 in
set_option maxHeartbeats 2000000 in
theorem plain_law (q : Option Addr) (t : List Int) (c : Nat) (w : World) (hc : t.length ≤ c) (hm : c ≤ maxLen) (hI : Is w q t) (hT : Tab w) :
    Calls Tryd.prog 6 #[.slice q t.length c] w fun e w' => e = .returned (.bool true) ∧ Below w.heap.size w w' := by
  have AL := alive_any w hT
  have hm2 : (c : Int) ≤ 9223372036854775807 := by unfold maxLen at hm; omega
  have hc2 : (t.length : Int) ≤ c := by omega
  by_cases hn : t.length ≤ 300
  · have hn' : ¬ (300 : Int) < t.length := by omega
    go_enter Tryd.func6, Tryd.ntmps6
    go_wp2_with (first | (go_at_call 9; refine AL.mono ?_; rintro e W1 ⟨rfl, hb1⟩))
    clear AL
    go_loop [4] (fun iv => ∃ (k : Nat), k ≤ t.length ∧ iv = .int .i64 k ∧ Hid (∀ x ∈ t.take k, standsP x = true)) (fun iv => t.length - (intOf iv).toNat)
    case atStart => exact ⟨0, Nat.zero_le _, rfl, by intro x hx; simp at hx⟩
    case round =>
      obtain ⟨k, hk, rfl, Hs⟩ := hrel
      by_cases hlt : k < t.length
      · have hli : (k : Int) < t.length := by omega
        obtain ⟨b, o, rfl, hu⟩ := (hI.on hb1).at (by omega)
        have c0 := hu k hlt
        have HS : Hid (standsP (iAt t k) = true → ∀ x ∈ t.take (k + 1), standsP x = true) := fun h x hx => by
          rw [take_more' hlt] at hx
          rcases List.mem_append.1 hx with hx | hx
          · exact Hs.out x hx
          · simp at hx; subst hx; exact h
        have RP := rprint_any (iAt t k)
        generalize iAt t k = x at c0 RP HS
        clear hu
        by_cases hs : standsP x = true
        · have hp : printP x = true := by unfold standsP at hs; simp at hs; exact hs.2
          have ho : oddP x = false := by unfold standsP at hs; simp at hs; exact hs.1
          have ho' := ho
          unfold oddP at ho'
          simp only [decide_eq_false_iff_not, not_or] at ho'
          obtain ⟨o1, o2, o3, o4, o5, o6, o7, o8, o9⟩ := ho'
          have e1 : (x == 34) = false := by simpa using o1
          have e2 : (x == 92) = false := by simpa using o2
          have e3 : (x == 9) = false := by simpa using o3
          have e4 : (x == 10) = false := by simpa using o4
          have e5 : (x == 13) = false := by simpa using o5
          have e6 : (x == 133) = false := by simpa using o6
          have e7 : (x == 8232) = false := by simpa using o7
          have e8 : (x == 8233) = false := by simpa using o8
          have e9 : (x == 65279) = false := by simpa using o9
          have HS1 : Hid (∀ x ∈ t.take (k + 1), standsP x = true) := HS.out hs
          rw [hp] at RP
          clear hs hp ho HS
          go_wp2_with (first | (go_at_call 18; refine (RP _).mono ?_; rintro e W1 ⟨rfl, rfl⟩))
          go_round
          case rel => exact ⟨k + 1, by omega, by go_num, HS1⟩
          case measure => simp [intOf]; omega
        · have hdis : printP x = false ∨ oddP x = true := by
            unfold standsP at hs
            cases h1 : printP x <;> cases h2 : oddP x <;> simp [h1, h2] at hs ⊢
          clear HS hs
          unfold oddP at hdis
          rcases hdis with hp | ho
          · rw [hp] at RP
            go_wp2_with (first | (go_at_call 18; refine (RP _).mono ?_; rintro e W1 ⟨rfl, rfl⟩))
            go_ret
            exact ⟨rfl, hb1⟩
          · simp only [decide_eq_true_eq] at ho
            cases hp : printP x with
            | false =>
              rw [hp] at RP
              go_wp2_with (first | (go_at_call 18; refine (RP _).mono ?_; rintro e W1 ⟨rfl, rfl⟩))
              go_ret
              exact ⟨rfl, hb1⟩
            | true =>
              rw [hp] at RP
              clear hp
              rcases ho with rfl | rfl | rfl | rfl | rfl | rfl | rfl | rfl | rfl <;>
              · go_wp2_with (first | (go_at_call 18; refine (RP _).mono ?_; rintro e W1 ⟨rfl, rfl⟩))
                go_ret
                exact ⟨rfl, hb1⟩
      · obtain rfl : k = t.length := by omega
        have hst : ∀ x ∈ t, standsP x = true := by have := Hs.out; rwa [List.take_length] at this
        obtain ⟨f1, f2⟩ := it_plain true t (stands_no92 hst)
        have h0 := owns_lit1 W1 34
        obtain ⟨v2, W2, hr2, ho2, hg2, -⟩ := pushX (c := c) h0 (by simp) (by simp; omega) ((hI.on hb1).alloc (.cells #[.int .i64 34] 3))
        obtain ⟨v2a, v2k, v2c, rfl⟩ := ownsRow_form ho2
        have hb2 : Below W1.heap.size W1 W2 := ((Below.refl _ W1).alloc (Nat.le_refl _) _).trans (owns_below h0 hg2 (Nat.le_refl _) (by simp))
        obtain ⟨v3, W3, hr3, ho3, hb3⟩ := push1w ho2 hb2.size (by simp; omega) 34
        obtain ⟨v3a, v3k, v3c, rfl⟩ := ownsRow_form ho3
        have hb3' := hb2.trans hb3
        have hbw3 := hb1.trans (hb3'.mono hb1.size)
        have RD := Read_one q t c W3 (hI.on hbw3) hc hm (by omega) (hT.on hbw3)
        have e1 : ((t.map fun c => (c, false)).map (fun x : Item => x.1)) = t := by simp [List.map_map, Function.comp_def]
        rw [f1, f2, e1] at RD
        have RD' : Calls Tryd.prog 11 #[.slice (some ⟨W3.heap.size, 0, none⟩) 1 1] (W3.alloc (.cells #[.slice q t.length c] 25)) fun e w' => ∃ q' c', e = .returned (.tuple #[.slice q' t.length c', .int .i64 0]) ∧ Is w' q' t ∧ Below W3.heap.size W3 w' := RD.mono (by
          rintro e w' ⟨hb, (⟨h, -⟩ | ⟨-, v, rfl, ho⟩)⟩
          · exact absurd rfl h
          · obtain ⟨q', c', rfl, hI'⟩ := ho.read
            exact ⟨q', c', rfl, hI', hb⟩)
        have WR := fun W (hb : Below w.heap.size w W) => Write_plain q t c W (by omega) (hI.on hb) hst
        have e2 : [34] ++ t ++ [34] = 34 :: t ++ [34] := rfl
        rw [e2] at ho3
        have hll : ((34 :: t ++ [34]).length : Int) ≤ 1000 := by simp; omega
        obtain ⟨q3, c3, e3, hI3⟩ := ho3.read
        generalize 34 :: t ++ [34] = ll at WR ho3 hI3 e3 hll
        cases e3
        have SI := fun p q c d W => same_ints p q ll c d W (by omega)
        have SJ := fun p q c d W => same_ints p q t c d W (by omega)
        clear RD f1 f2 h0 ho2 hg2 ho3 hst Hs e1 e2
        go_wp2_with (first | (at_builtin; refine wpList_append_run (u := .slice (some ⟨W1.heap.size, 0, none⟩) 1 1) (y := .slice q t.length c) rfl _ _ 25 rfl rfl rfl hr2 ?_; clear hr2) | (at_builtin; refine wpList_append_run (u := .slice v2a v2k v2c) (y := .slice (some ⟨W2.heap.size, 0, none⟩) 1 1) rfl _ _ 25 rfl rfl rfl hr3 ?_; clear hr3) | (go_at_call 11; refine RD'.mono ?_; rintro e W4 ⟨q4, c4, rfl, hI4, hb4⟩) | (go_at_call 17; refine (WR _ (hbw3.trans (hb4.mono hbw3.size))).mono ?_; rintro e W5 ⟨v5, rfl, ho5, hb5⟩; obtain ⟨q5, c5, rfl, hI5⟩ := ho5.read))
        refine (SI _ _ _ _ _ hI5 ((hI3.on hb4).on hb5)).mono ?_
        rintro e W6 ⟨rfl, m6, rfl⟩
        go_wp2_with (first | (go_at_call 13; refine (num_any _ _).mono ?_; rintro e W7 ⟨rfl, rfl⟩))
        refine (SJ _ _ _ _ _ ((hI4.on hb5).drewN _) ((((hI.on hbw3).on hb4).on hb5).drewN _)).mono ?_
        rintro e W8 ⟨rfl, m8, rfl⟩
        go_wp2
        go_ret
        exact ⟨rfl, belowN ((hbw3.trans (hb4.mono hbw3.size)).trans (hb5.mono (Nat.le_trans hbw3.size hb4.size))) _⟩
  · have hn' : (300 : Int) < t.length := by omega
    go_enter Tryd.func6, Tryd.ntmps6
    go_wp2_with (first | (go_at_call 9; refine AL.mono ?_; rintro e W1 ⟨rfl, hb⟩))
    go_ret
    exact ⟨rfl, hb⟩
end Go.Proofs.YtpiefdpcinjkpaaDoor
