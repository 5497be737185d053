/- LinesRead's walk: for every slice of ints. -/
import Derived.Test.YtcijjbnkdjmklaaRef
import Derived.Test.YtcijjbnkdjmklaaBase
set_option linter.unusedVariables false
set_option linter.unusedSimpArgs false
namespace Go.Proofs.Ytcijjbnkdjmklaa
open Go.RowKit Go.Shelf

theorem lines_small (t : List Int) : ∀ x, x ∈ linesP t → x.2.length ≤ t.length := by
  intro x hx
  unfold linesP at hx
  obtain ⟨y, hy, rfl⟩ := List.mem_map.1 hx
  simp [lineP, pieceOf]
  omega
theorem lines_count (t : List Int) : (linesP t).length ≤ t.length := by
  have := cuts_count t t.length 0 (by omega)
  unfold linesP
  rw [List.length_map]
  omega

theorem ls_same (p q : Option Addr) (t : List Int) (bad : Bool) (c d : Nat) (w : World) (hm : t.length ≤ 1099511627776) (hp : Ls w p (if bad then [] else linesP t)) (hq : Ls w q (if bad then [] else linesP t)) :
    Calls Try.prog 11 #[.slice p (if bad then [] else linesP t).length c, .slice q (if bad then [] else linesP t).length d] w fun e w' => e = .returned (.bool true) ∧ ∃ k, w' = w.drewN k := by
  refine same_lines p q _ c d w ?_ ?_ hp hq
  · cases bad
    · have := lines_count t; simp; omega
    · simp
  · intro x hx
    cases bad
    · have := lines_small t x hx; omega
    · simp at hx

set_option maxRecDepth 100000 in
set_option maxHeartbeats 2000000 in
theorem read_law (p : Option Addr) (t : List Int) (cap : Nat) (w : World) (hl : t.length ≤ cap) (hc : cap ≤ maxLen) (hn : (t.length : Int) ≤ 1000) (h : Is w p t) :
    Calls Try.prog 3 #[.slice p t.length cap] w fun e w' => e = .returned (.bool true) ∧ Below w.heap.size w w' := by
  have R := fun q c w2 h1 h2 h3 => Read_any q t c w2 h1 h2 (by omega) h3
  have F := fun w2 h3 => reflines_any p t cap w2 hl hc (by omega) h3
  have SL := fun bad p q c d w => ls_same p q t bad c d w (by omega)
  obtain ⟨bad, hbad⟩ : ∃ bad, t.any badP = bad := ⟨_, rfl⟩
  rw [hbad] at R F
  have SL := SL bad
  generalize (if bad = true then [] else linesP t) = xs at R F SL
  generalize (if bad = true then (4 : Int) else 0) = ec at R F
  clear hbad
  go_enter Try.func3, Try.ntmps3
  go_wp2_with (first | (go_at_call 7; refine (alive_any _).mono ?_; rintro e W ⟨rfl, hB⟩; obtain ⟨v, w1, hrun, ho, hb1⟩ := append_copy W p t cap (h.on hB) (by omega); obtain ⟨q, k1, c1, rfl⟩ := ownsRow_form ho; obtain ⟨hI1, rfl, hk1, hk2⟩ := is_of_row ho; have hB1 := hB.trans (hb1.mono hB.size); clear ho) | (at_builtin; refine wpList_append_run rfl _ _ 22 rfl rfl rfl hrun ?_) | (go_at_call 8; refine (R _ _ _ hk1 hk2 hI1).mono ?_; rintro e w2 ⟨v2, rfl, hb2, hr2⟩; obtain ⟨a2, c2, rfl, -, -, hL2, -⟩ := hr2.read; have hB2 := hB1.trans (hb2.mono hB1.size); clear hr2) | (go_at_call 9; refine (F _ (h.on hB2)).mono ?_; rintro e w3 ⟨v3, rfl, hb3, hr3⟩; obtain ⟨a3, c3, rfl, -, -, hL3, -⟩ := hr3.read; have hB3 := hB2.trans (hb3.mono hB2.size); clear hr3) | (go_at_call 10; refine (num_any _ _).mono ?_; rintro e w' ⟨rfl, rfl⟩) | (go_at_call 11; refine (SL _ _ _ _ _ (hL2.on hb3) hL3).mono ?_; rintro e w4 ⟨rfl, m, rfl⟩))
  go_ret
  exact ⟨rfl, belowN hB3 _⟩
end Go.Proofs.Ytcijjbnkdjmklaa
