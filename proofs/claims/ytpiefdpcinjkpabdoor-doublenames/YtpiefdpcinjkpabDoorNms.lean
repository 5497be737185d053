/- DoubleNames' walk. -/
import Derived.Test.YtpiefdpcinjkpabDoorOne
import Derived.Test.YtpiefdpcinjkpabDoorAlv
set_option linter.unusedVariables false
set_option linter.unusedSimpArgs false
namespace Go.Proofs.YtpiefdpcinjkpabDoor
open Go.RowKit Go.Shelf

def fromL : List Int := [48, 97, 98, 116, 9, 110, 118, 102, 114, 101, 32, 34, 47, 92, 78, 95, 76, 80]
def toL : List Int := [0, 7, 8, 9, 9, 10, 11, 12, 13, 27, 32, 34, 47, 92, 133, 160, 8232, 8233]
theorem from_at : ∀ j, j < 18 → iAt fromL j = sgn j := by decide
theorem to_at : ∀ j, j < 18 → iAt toL j = pnt j := by decide
/-- The world behind the two lists. -/
def wE (w : World) : World := (w.alloc (.cells #[.int .i64 48, .int .i64 97, .int .i64 98, .int .i64 116, .int .i64 9, .int .i64 110, .int .i64 118, .int .i64 102, .int .i64 114, .int .i64 101, .int .i64 32, .int .i64 34, .int .i64 47, .int .i64 92, .int .i64 78, .int .i64 95, .int .i64 76, .int .i64 80] 3)).alloc (.cells #[.int .i64 0, .int .i64 7, .int .i64 8, .int .i64 9, .int .i64 9, .int .i64 10, .int .i64 11, .int .i64 12, .int .i64 13, .int .i64 27, .int .i64 32, .int .i64 34, .int .i64 47, .int .i64 92, .int .i64 133, .int .i64 160, .int .i64 8232, .int .i64 8233] 3)
theorem wE_facts (w : World) : w.grownBy (wE w) none ∧ (∀ j, j < 18 → (wE w).cell? ⟨w.heap.size, j, none⟩ = some (.int .i64 (sgn j))) ∧ (∀ j, j < 18 → (wE w).cell? ⟨w.heap.size + 1, j, none⟩ = some (.int .i64 (pnt j))) := by
  have h1 := World.alloc_heap_new w (.cells #[.int .i64 48, .int .i64 97, .int .i64 98, .int .i64 116, .int .i64 9, .int .i64 110, .int .i64 118, .int .i64 102, .int .i64 114, .int .i64 101, .int .i64 32, .int .i64 34, .int .i64 47, .int .i64 92, .int .i64 78, .int .i64 95, .int .i64 76, .int .i64 80] 3)
  have h2 := World.alloc_heap_new (w.alloc (.cells #[.int .i64 48, .int .i64 97, .int .i64 98, .int .i64 116, .int .i64 9, .int .i64 110, .int .i64 118, .int .i64 102, .int .i64 114, .int .i64 101, .int .i64 32, .int .i64 34, .int .i64 47, .int .i64 92, .int .i64 78, .int .i64 95, .int .i64 76, .int .i64 80] 3)) (.cells #[.int .i64 0, .int .i64 7, .int .i64 8, .int .i64 9, .int .i64 9, .int .i64 10, .int .i64 11, .int .i64 12, .int .i64 13, .int .i64 27, .int .i64 32, .int .i64 34, .int .i64 47, .int .i64 92, .int .i64 133, .int .i64 160, .int .i64 8232, .int .i64 8233] 3)
  rw [World.size_alloc] at h2
  have h1' : (wE w).heap[w.heap.size]? = _ := (Below.heap_alloc _ _ w.heap.size (by simp)).trans h1
  have i1 : Is (wE w) (some ⟨w.heap.size, 0, none⟩) fromL := is_of_block (l := fromL) h1'
  have i2 : Is (wE w) (some ⟨w.heap.size + 1, 0, none⟩) toL := is_of_block (l := toL) h2
  refine ⟨grown_trans (grown_new _ _) (grown_new _ _), fun j hj => ?_, fun j hj => ?_⟩
  · obtain ⟨b, o, e, hc⟩ := i1.at (by decide)
    cases e
    have := hc j hj
    rw [Nat.zero_add, from_at j hj] at this
    exact this
  · obtain ⟨b, o, e, hc⟩ := i2.at (by decide)
    cases e
    have := hc j hj
    rw [Nat.zero_add, to_at j hj] at this
    exact this


theorem name_read (c : Int) (h : countP c = 0) : flP true 0 [97, 92, c, 98] = (match shortAt c with | some _ => 0 | none => 2) ∧ ∀ p, shortAt c = some p → (itP true 0 [97, 92, c, 98]).map (·.1) = [97, p, 98] := by
  have e : firstP [c, 98] true = match shortAt c with | some p => ⟨2, p, 0⟩ | none => ⟨0, 0, 2⟩ := by
    unfold firstP
    dsimp only
    rw [h, if_neg (by omega)]
    rfl
  constructor
  · have : flP true 0 [97, 92, c, 98] = if (firstP [c, 98] true).fault = 0 then flP true ((firstP [c, 98] true).size - 1) [c, 98] else (firstP [c, 98] true).fault := rfl
    rw [this, e]
    cases shortAt c with
    | none => rfl
    | some p => rfl
  · intro p hp
    have : itP true 0 [97, 92, c, 98] = (97, false) :: ((firstP [c, 98] true).point, true) :: itP true ((firstP [c, 98] true).size - 1) [c, 98] := rfl
    rw [this, e, hp]
    rfl

theorem Owns.read {w : World} {base : Nat} {v : Value} {t : List Int} (h : Owns w base v t) : ∃ q c, v = .slice q t.length c ∧ Is w q t := by
  obtain ⟨q, k, c, rfl⟩ := ownsRow_form h
  obtain ⟨h1, rfl, -, -⟩ := is_of_row h
  exact ⟨q, c, rfl, h1⟩
theorem belowN {n₀ : Nat} {A B : World} (h : Below n₀ A B) (k : Nat) : Below n₀ A (B.drewN k) := ⟨h.os, h.tape, h.output, h.size, h.block⟩

/-- The world in which the line is read. -/
def wN (W : World) (c : Int) : World := ((wE W).alloc (.cells #[.int .i64 97, .int .i64 92, .int .i64 c, .int .i64 98] 3)).alloc (.cells #[.slice (some ⟨W.heap.size + 1 + 1, 0, none⟩) 4 4] 25)
theorem wE_size (W : World) : (wE W).heap.size = W.heap.size + 1 + 1 := by simp [wE]

theorem names_call (c : Int) (W : World) (h : countP c = 0) (hT : Tab W) :
    Calls Tryd.prog 7 #[.slice (some ⟨W.heap.size + 1 + 1 + 1, 0, none⟩) 1 1] (wN W c) fun e w' =>
      (Below W.heap.size W w' ∧ (∀ j, j < 18 → w'.cell? ⟨W.heap.size, j, none⟩ = some (.int .i64 (sgn j))) ∧ (∀ j, j < 18 → w'.cell? ⟨W.heap.size + 1, j, none⟩ = some (.int .i64 (pnt j)))) ∧
      ((shortAt c = none ∧ e = .returned (.tuple #[.slice none 0 0, .int .i64 2])) ∨ ∃ p q k, shortAt c = some p ∧ e = .returned (.tuple #[.slice q 3 k, .int .i64 0]) ∧ Is w' q [97, p, 98]) := by
  obtain ⟨hg, hF, hO⟩ := wE_facts W
  have hg2 := grown_trans hg (grown_new (wE W) (.cells #[.int .i64 97, .int .i64 92, .int .i64 c, .int .i64 98] 3))
  have hI : Is ((wE W).alloc (.cells #[.int .i64 97, .int .i64 92, .int .i64 c, .int .i64 98] 3)) (some ⟨(wE W).heap.size, 0, none⟩) [97, 92, c, 98] := is_of_block (l := [97, 92, c, 98]) (World.alloc_heap_new _ _)
  have RD := Read_one _ _ 4 _ hI (by simp) (by unfold maxLen; simp) (by simp) (hT.grown hg2)
  rw [World.size_alloc, wE_size] at RD
  obtain ⟨n1, n2⟩ := name_read c h
  refine RD.mono ?_
  rintro e w' ⟨hb, hr⟩
  have hbb : Below (wE W).heap.size (wE W) w' := (grown_below (grown_new (wE W) (.cells #[.int .i64 97, .int .i64 92, .int .i64 c, .int .i64 98] 3))).trans (hb.mono (by rw [wE_size]; omega))
  refine ⟨⟨(grown_below hg).trans (hbb.mono hg.size), fun j hj => ?_, fun j hj => ?_⟩, ?_⟩
  · exact (hbb.cell (p := ⟨W.heap.size, j, none⟩) (by rw [wE_size]; show W.heap.size < _; omega)).trans (hF j hj)
  · exact (hbb.cell (p := ⟨W.heap.size + 1, j, none⟩) (by rw [wE_size]; show W.heap.size + 1 < _; omega)).trans (hO j hj)
  · rw [n1] at hr
    cases hs : shortAt c with
    | none =>
      rw [hs] at hr
      rcases hr with ⟨-, rfl⟩ | ⟨h0, -⟩
      · exact .inl ⟨rfl, rfl⟩
      · cases h0
    | some p =>
      rw [hs] at hr
      rcases hr with ⟨h0, -⟩ | ⟨-, v, rfl, ho⟩
      · exact absurd rfl h0
      · rw [n2 p hs] at ho
        obtain ⟨q, k, rfl, hI'⟩ := ho.read
        exact .inr ⟨p, q, k, rfl, rfl, hI'⟩

set_option maxRecDepth 100000 in
set_option maxHeartbeats 2000000 in
theorem names_law (c : Int) (w : World) (hT : Tab w) : Calls Tryd.prog 4 #[.int .i64 c] w fun e w' => e = .returned (.bool true) ∧ Below w.heap.size w w' := by
  have AL := alive_any w hT
  by_cases hout : c < 0 ∨ 255 < c ∨ c = 120 ∨ c = 117 ∨ c = 85
  · rcases hout with h | h | rfl | rfl | rfl
    all_goals
      go_enter Tryd.func4, Tryd.ntmps4
      go_wp2_with (first | (go_at_call 5; refine AL.mono ?_; rintro e W1 ⟨rfl, hb⟩))
      all_goals
        go_ret
        exact ⟨rfl, hb⟩
  · have h0 : ¬ c < 0 := by omega
    have h1 : ¬ 255 < c := by omega
    have h2 : c ≠ 120 := by omega
    have h3 : c ≠ 117 := by omega
    have h4 : c ≠ 85 := by omega
    have g2 : (c == 120) = false := by simpa using h2
    have g3 : (c == 117) = false := by simpa using h3
    have g4 : (c == 85) = false := by simpa using h4
    have hct : countP c = 0 := by unfold countP; rw [if_neg h2, if_neg h3, if_neg h4]
    have NC := fun W (hb : Below w.heap.size w W) => names_call c W hct (hT.on hb)
    unfold wN wE at NC
    clear hout hct
    go_enter Tryd.func4, Tryd.ntmps4
    go_wp2_with (first | (go_at_call 5; refine AL.mono ?_; rintro e W1 ⟨rfl, hb1⟩) | (go_at_call 7; refine (NC _ hb1).mono ?_; rintro e W4 ⟨⟨hb4, cF, cO⟩, (⟨hs, rfl⟩ | ⟨p, q, k, hs, rfl, hI⟩)⟩))
    · have hne : ∀ j, j < 18 → (sgn j == c) = false := fun j hj => by
        simp only [beq_eq_false_iff_ne]
        intro e
        have := short_some j hj
        rw [e, hs] at this
        cases this
      have HF : Hid (∀ j, j < 18 → W4.cell? ⟨W1.heap.size, j, none⟩ = some (.int .i64 (sgn j))) := cF
      have hbw := hb1.trans (hb4.mono hb1.size)
      clear cF cO NC AL hs
      go_loop [8] (fun iv => ∃ (j : Nat), j ≤ 18 ∧ iv = .int .i64 j) (fun iv => 18 - (intOf iv).toNat)
      case atStart => exact ⟨0, by omega, rfl⟩
      case round =>
        obtain ⟨j, hj, rfl⟩ := hrel
        by_cases hlt : j < 18
        · have hlt' : (j : Int) < 18 := by omega
          have c0 := HF.out j hlt
          have hn := hne j hlt
          generalize sgn j = sj at c0 hn
          clear hne
          go_wp2
          go_round
          case rel => exact ⟨j + 1, by omega, by go_num⟩
          case measure => simp [intOf]; omega
        · obtain rfl : j = 18 := by omega
          rw [show ((18 : Nat) : Int) = 18 from rfl]
          clear hne
          go_wp2_with (first | (go_at_call 8; refine (num_any _ _).mono ?_; rintro e W4 ⟨rfl, rfl⟩))
          go_ret
          exact ⟨rfl, hbw⟩
    · have HF : Hid (∀ j, j < 18 → W4.cell? ⟨W1.heap.size, j, none⟩ = some (.int .i64 (sgn j))) := cF
      have HO : Hid (∀ j, j < 18 → W4.cell? ⟨W1.heap.size + 1, j, none⟩ = some (.int .i64 (pnt j))) := cO
      have hbw := hb1.trans (hb4.mono hb1.size)
      have HS : Hid (shortAt c = some p) := hs
      have hI5 : Is (W4.alloc (.cells #[.int .i64 97, .int .i64 p, .int .i64 98] 3)) (some ⟨W4.heap.size, 0, none⟩) [97, p, 98] := is_of_block (l := [97, p, 98]) (World.alloc_heap_new _ _)
      have SI := same_ints q (some ⟨W4.heap.size, 0, none⟩) [97, p, 98] k 3 _ (by simp) (hI.alloc (.cells #[.int .i64 97, .int .i64 p, .int .i64 98] 3)) hI5
      have hl3 : [97, p, 98].length = 3 := rfl
      rw [hl3] at SI
      clear cF cO NC AL hs hI hI5 hl3
      go_loop [8] (fun iv => ∃ (j : Nat), j ≤ 18 ∧ iv = .int .i64 j ∧ Hid (∀ i, i < j → sgn i ≠ c)) (fun iv => 18 - (intOf iv).toNat)
      case atStart => exact ⟨0, by omega, rfl, fun i h => by omega⟩
      case round =>
        obtain ⟨j, hj, rfl, Hn⟩ := hrel
        by_cases hlt : j < 18
        · have hlt' : (j : Int) < 18 := by omega
          have c0 := HF.out j hlt
          have c1 := HO.out j hlt
          by_cases he : sgn j = c
          · have hp : pnt j = p := by
              have := short_some j hlt
              rw [he, HS.out] at this
              exact (Option.some.inj this).symm
            rw [he] at c0
            rw [hp] at c1
            clear hp he Hn
            go_wp2_with (first | (go_at_call 8; refine (num_any _ _).mono ?_; rintro e W4 ⟨rfl, rfl⟩) | (go_at_call 9; refine SI.mono ?_; rintro e W6 ⟨rfl, m6, rfl⟩))
            go_ret
            exact ⟨rfl, belowN (hbw.alloc hbw.size _) _⟩
          · have he' : (sgn j == c) = false := by simpa using he
            have Hn1 : Hid (∀ i, i < j + 1 → sgn i ≠ c) := fun i hi => by
              by_cases e : i = j
              · subst e; exact he
              · exact Hn.out i (by omega)
            generalize sgn j = sj at c0 he he'
            clear SI
            go_wp2
            go_round
            case rel => exact ⟨j + 1, by omega, by go_num, Hn1⟩
            case measure => simp [intOf]; omega
        · obtain rfl : j = 18 := by omega
          have := short_none Hn.out
          rw [HS.out] at this
          cases this
end Go.Proofs.YtpiefdpcinjkpabDoor
