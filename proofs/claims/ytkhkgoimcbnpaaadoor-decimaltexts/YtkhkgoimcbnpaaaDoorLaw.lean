/- DecimalTexts' walk. -/
import Derived.Test.YtkhkgoimcbnpaaaDoorTxtP
set_option linter.unusedVariables false
set_option linter.unusedSimpArgs false
namespace Go.Proofs.YtkhkgoimcbnpaaaDoor
open Go.RowKit

abbrev nbox (w : World) (b : Bool) (D : ByteArray) (E X : Int) : World := w.alloc (.cells #[.bool b, .string D, .int .i64 E, .int .i64 X] 23)
theorem nbox_below (w : World) (b : Bool) (D : ByteArray) (E X : Int) {W : World} (h : Below (w.heap.size + 1) (nbox w b D E X) W) : Below w.heap.size w W :=
  ((Below.refl _ w).alloc (Nat.le_refl _) _).trans (h.mono (by omega))
theorem nbox_on {w : World} {b : Bool} {D : ByteArray} {E X : Int} {V W : World} (h : Below (w.heap.size + 1) (nbox w b D E X) V) (h2 : Below V.heap.size V W) : Below (w.heap.size + 1) (nbox w b D E X) W :=
  h.trans (h2.mono (by have := h.size; simp at this; omega))
theorem nbox_one {w : World} {b : Bool} {D : ByteArray} {E X : Int} {W : World} (h : Below (w.heap.size + 1) (nbox w b D E X) W) : Below (w.heap.size + 1) (nbox w b D E X) W := h

set_option maxRecDepth 100000 in
set_option maxHeartbeats 1000000 in
theorem texts_big (b : Bool) (D : ByteArray) (E X : Int) (w : World) (hs : (D.size : Int) ≤ 4611686018427387904) (hbig : 200 < D.size) :
    Calls Tryd.prog 3 #[.agg #[.bool b, .string D, .int .i64 E, .int .i64 X]] w fun e w' => e = .returned (.bool true) ∧ Below w.heap.size w w' := by
  have hb' : (200 : Int) < D.size := by omega
  have AL := alive_any (nbox w b D E X)
  unfold nbox at AL
  rw [size1] at AL
  have R5 := fun w => rnum_any b D E X w hs
  generalize rightP b D E X = R at R5
  go_enter Tryd.func3, Tryd.ntmps3
  go_wp2_with fail
  refine AL.mono ?_
  rintro e w1 ⟨rfl, hB1⟩
  obtain ⟨k0, k1, k2, k3⟩ := box4 hB1
  go_wp2_with fail
  refine (R5 _).mono ?_
  rintro e w2 ⟨rfl, hB2⟩
  have hB2' := nbox_on hB1 hB2
  obtain ⟨j0, j1, j2, j3⟩ := box4 hB2'
  have HB : Hid (Below w.heap.size w w2) := nbox_below w b D E X hB2'
  clear hB1 hB2 hB2' AL R5 k0 k1 k2 k3
  go_wp2
  go_ret
  exact ⟨rfl, HB.out⟩

set_option maxRecDepth 100000 in
set_option maxHeartbeats 1000000 in
theorem texts_wrong (b : Bool) (D : ByteArray) (E X : Int) (w : World) (hs : D.size ≤ 200) (hR : rightP b D E X = false) :
    Calls Tryd.prog 3 #[.agg #[.bool b, .string D, .int .i64 E, .int .i64 X]] w fun e w' => e = .returned (.bool true) ∧ Below w.heap.size w w' := by
  have hb' : ¬ (200 : Int) < D.size := by omega
  have AL := alive_any (nbox w b D E X)
  unfold nbox at AL
  rw [size1] at AL
  have R5 := fun w => rnum_any b D E X w (by omega)
  have R6 := fun w => Right_any b D E X w (by omega)
  rw [hR] at R5 R6
  go_enter Tryd.func3, Tryd.ntmps3
  go_wp2_with fail
  refine AL.mono ?_
  rintro e w1 ⟨rfl, hB1⟩
  obtain ⟨k0, k1, k2, k3⟩ := box4 hB1
  go_wp2_with fail
  refine (R5 _).mono ?_
  rintro e w2 ⟨rfl, hB2⟩
  have hB2' := nbox_on hB1 hB2
  obtain ⟨j0, j1, j2, j3⟩ := box4 hB2'
  clear hB1 hB2 AL R5 k0 k1 k2 k3
  go_wp2_with fail
  refine (R6 _).mono ?_
  rintro e w3 ⟨rfl, hB3⟩
  have hB3' := nbox_on hB2' hB3
  have HB : Hid (Below w.heap.size w w3) := nbox_below w b D E X hB3'
  clear hB2' hB3 hB3' R6 j0 j1 j2 j3
  go_wp2
  go_ret
  exact ⟨rfl, HB.out⟩

set_option maxRecDepth 100000 in
set_option maxHeartbeats 1000000 in
theorem texts_right (b : Bool) (D : ByteArray) (E X : Int) (w : World) (hs : D.size ≤ 200) (hR : rightP b D E X = true) (htab : Lib.TabIs Tryd.prog w "internal/strconv.uint64pow10" .u64 Lib.pow10Tab) :
    Calls Tryd.prog 3 #[.agg #[.bool b, .string D, .int .i64 E, .int .i64 X]] w fun e w' => e = .returned (.bool true) ∧ Below w.heap.size w w' := by
  have hb' : ¬ (200 : Int) < D.size := by omega
  have AL := alive_any (nbox w b D E X)
  unfold nbox at AL
  rw [size1] at AL
  have R5 := fun w => rnum_any b D E X w (by omega)
  have R6 := fun w => Right_any b D E X w (by omega)
  obtain ⟨q0, q1, q2⟩ := right_bounds hR
  have R7 := fun w h => Text_any b D E X w hs q0 q1 q2 h
  have R8 := fun w => rtext_any b D E X w hs q1 q2
  obtain ⟨ta, ts, tb⟩ := text_back hR hs
  have R9 := fun w => Float_plain (textP b D E X) w (by omega) (.inr ta)
  rw [tb] at R9
  rw [hR] at R5 R6
  have HT : Hid (∀ V, Below (w.heap.size + 1) (nbox w b D E X) V → Lib.TabIs Tryd.prog V "internal/strconv.uint64pow10" .u64 Lib.pow10Tab) := fun V h => Lib.tabBelow_of_tabIs htab V (nbox_below w b D E X h)
  generalize textP b D E X = T at R7 R8 R9
  clear ta ts tb hR q0 htab
  go_enter Tryd.func3, Tryd.ntmps3
  go_wp2_with fail
  refine AL.mono ?_
  rintro e w1 ⟨rfl, hB1⟩
  obtain ⟨k0, k1, k2, k3⟩ := box4 hB1
  go_wp2_with fail
  refine (R5 _).mono ?_
  rintro e w2 ⟨rfl, hB2⟩
  have hB2' := nbox_on hB1 hB2
  obtain ⟨j0, j1, j2, j3⟩ := box4 hB2'
  clear hB1 hB2 AL R5 k0 k1 k2 k3
  go_wp2_with fail
  refine (R6 _).mono ?_
  rintro e w3 ⟨rfl, hB3⟩
  have hB3' := nbox_on hB2' hB3
  obtain ⟨k0, k1, k2, k3⟩ := box4 hB3'
  clear hB2' hB3 R6 j0 j1 j2 j3
  go_wp2_with fail
  refine (R7 _ (HT.out _ hB3')).mono ?_
  rintro e w4 ⟨rfl, hB4⟩
  have hB4' := nbox_on hB3' hB4
  obtain ⟨j0, j1, j2, j3⟩ := box4 hB4'
  clear hB3' hB4 R7 k0 k1 k2 k3
  go_wp2_with fail
  refine (R8 _).mono ?_
  rintro e w5 ⟨rfl, hB5⟩
  have hB5' := nbox_on hB4' hB5
  obtain ⟨k0, k1, k2, k3⟩ := box4 hB5'
  clear hB4' hB5 R8 j0 j1 j2 j3
  go_wp2_with fail
  refine (R9 _).mono ?_
  rintro e w6 ⟨rfl, hB6⟩
  have hB6' := nbox_on hB5' hB6
  obtain ⟨j0, j1, j2, j3⟩ := box4 hB6'
  have HB : Hid (∀ o, Below w.heap.size w (w6.alloc o)) := fun o => (nbox_below w b D E X hB6').alloc ((nbox_below w b D E X hB6').size) o
  have hlt : w.heap.size < w6.heap.size := by have := hB6'.size; simp at this; omega
  have hA : ∀ o, Below w6.heap.size w6 (w6.alloc o) := fun o => (Below.refl _ w6).alloc (Nat.le_refl _) _
  have n0 : ∀ o, (w6.alloc o).cell? ⟨w.heap.size, 0, none⟩ = some (.bool b) := fun o => ((hA o).cell (p := ⟨w.heap.size, 0, none⟩) hlt).trans j0
  have n1 : ∀ o, (w6.alloc o).cell? ⟨w.heap.size, 1, none⟩ = some (.string D) := fun o => ((hA o).cell (p := ⟨w.heap.size, 1, none⟩) hlt).trans j1
  have n2 : ∀ o, (w6.alloc o).cell? ⟨w.heap.size, 2, none⟩ = some (.int .i64 E) := fun o => ((hA o).cell (p := ⟨w.heap.size, 2, none⟩) hlt).trans j2
  have n3 : ∀ o, (w6.alloc o).cell? ⟨w.heap.size, 3, none⟩ = some (.int .i64 X) := fun o => ((hA o).cell (p := ⟨w.heap.size, 3, none⟩) hlt).trans j3
  clear hB5' hB6 hB6' R9 k0 k1 k2 k3 hA
  unfold backV
  by_cases hf : 999999999 < E ∨ E < -999999999
  · rw [if_pos hf]
    unfold zV
    have hc : 999999999 < E ∨ (¬ 999999999 < E ∧ E < -999999999) := by omega
    clear hf
    rcases hc with g1 | ⟨g1, g2⟩
    all_goals
      go_wp2
      go_ret
      exact ⟨rfl, HB.out _⟩
  · rw [if_neg hf]
    have g1 : ¬ 999999999 < E := by omega
    have g2 : ¬ E < -999999999 := by omega
    clear hf
    go_wp2
    go_ret
    exact ⟨rfl, HB.out _⟩

/-- For every number: DecimalTexts answers true. -/
theorem texts_any (b : Bool) (D : ByteArray) (E X : Int) (w : World) (hs : (D.size : Int) ≤ 4611686018427387904) (htab : Lib.TabIs Tryd.prog w "internal/strconv.uint64pow10" .u64 Lib.pow10Tab) :
    Calls Tryd.prog 3 #[.agg #[.bool b, .string D, .int .i64 E, .int .i64 X]] w fun e w' => e = .returned (.bool true) ∧ Below w.heap.size w w' := by
  by_cases h : 200 < D.size
  · exact texts_big b D E X w hs h
  · cases hR : rightP b D E X
    · exact texts_wrong b D E X w (by omega) hR
    · exact texts_right b D E X w (by omega) hR htab
end Go.Proofs.YtkhkgoimcbnpaaaDoor
