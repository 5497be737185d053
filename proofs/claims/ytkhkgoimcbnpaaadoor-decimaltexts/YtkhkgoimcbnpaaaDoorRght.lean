/- decimal.Right; the document's Itoa. -/
import Derived.Test.YtkhkgoimcbnpaaaDoorIntsP
set_option linter.unusedVariables false
set_option linter.unusedSimpArgs false
namespace Go.Proofs.YtkhkgoimcbnpaaaDoor
open Go.RowKit

/-- Digits, and a nought at neither end. -/
def bareL (l : List Nat) : Bool := decide (0 < l.length) && (decide (nAt l 0 ≠ 0) && decide (nAt l (l.length - 1) ≠ 0))
set_option maxRecDepth 100000 in
set_option maxHeartbeats 400000 in
theorem bare_any (p : Option Addr) (cap : Nat) (l : List Nat) (w : World) (hrd : Rd .u8 w p l) (hl : l.length ≤ 100000) :
    Calls Tryd.prog 19 #[.slice p l.length cap] w fun e w' => e = .returned (.bool (bareL l)) ∧ w' = w := by
  by_cases h0 : 0 < l.length
  · obtain ⟨b, o, rfl, hcell⟩ := hrd.at h0
    have c0 : w.cell? ⟨b, o, none⟩ = some (.int .u8 (nAt l 0)) := hcell 0 h0
    have c1 := hcell (l.length - 1) (by omega)
    have hb : bareL l = (decide (nAt l 0 ≠ 0) && decide (nAt l (l.length - 1) ≠ 0)) := by unfold bareL; simp [h0]
    rw [hb]
    have hi : (l.length : Int) - 1 = ((l.length - 1 : Nat) : Int) := by omega
    have hli : (0 : Int) < l.length := by omega
    have hlt : ((l.length - 1 : Nat) : Int) < l.length := by omega
    have hlb : ((l.length - 1 : Nat) : Int) ≤ 100000 := by omega
    generalize nAt l 0 = x at c0 ⊢
    generalize nAt l (l.length - 1) = y at c1 ⊢
    generalize l.length - 1 = k at hi hlt hlb c1
    clear hcell hrd hb h0
    by_cases hx : x = 0
    · subst hx
      go_enter Tryd.func19, Tryd.ntmps19
      go_wp2
      go_ret
      exact ⟨rfl, rfl⟩
    · have hx' : ((x : Int) == 0) = false := beq_false_of_ne (by omega)
      by_cases hy : y = 0
      · subst hy
        go_enter Tryd.func19, Tryd.ntmps19
        go_wp2
        go_ret
        exact ⟨ret_bool (by simp [hx]), rfl⟩
      · have hy' : ((y : Int) == 0) = false := beq_false_of_ne (by omega)
        go_enter Tryd.func19, Tryd.ntmps19
        go_wp2
        go_ret
        exact ⟨ret_bool (by simp [hx, hy]), rfl⟩
  · have hl0 : l.length = 0 := by omega
    have hb : bareL l = false := by unfold bareL; simp [hl0]
    rw [hb, hl0]
    clear hb h0 hl0 hrd
    go_enter Tryd.func19, Tryd.ntmps19
    go_wp2
    go_ret
    exact ⟨rfl, rfl⟩

def digsOk (D : ByteArray) (E : Int) : Bool :=
  if D.toList == [48] then decide (E = 0) else D.data.toList.all isD && (bareL (msd D.data.toList) && (decide (-2000000000 ≤ E) && decide (E ≤ 2000000000)))

set_option maxRecDepth 100000 in
set_option maxHeartbeats 400000 in
theorem rightDigits_any (b : Bool) (D : ByteArray) (E X : Int) (w : World) (hD : D.size ≤ 100000) :
    Calls Tryd.prog 10 #[.agg #[.bool b, .string D, .int .i64 E, .int .i64 X]] w fun e w' => e = .returned (.bool (digsOk D E)) ∧ Below w.heap.size w w' := by
  cases h0 : (D.toList == [48])
  · have hd : digsOk D E = (D.data.toList.all isD && (bareL (msd D.data.toList) && (decide (-2000000000 ≤ E) && decide (E ≤ 2000000000)))) := by unfold digsOk; rw [h0]; rfl
    rw [hd]
    clear hd
    cases ha : D.data.toList.all isD
    · have R := dread_no D (w.alloc (.cells #[.bool b, .string D, .int .i64 E, .int .i64 X] 23)) ha hD
      rw [size1] at R
      clear ha
      go_enter Tryd.func10, Tryd.ntmps10
      go_wp2_with fail
      refine R.mono ?_
      rintro e w1 ⟨rfl, hB1⟩
      have hw : Below w.heap.size w w1 := ((Below.refl _ w).alloc (Nat.le_refl _) _).trans (hB1.mono (by omega))
      go_wp2
      go_ret
      exact ⟨rfl, hw⟩
    · have R := dread_yes D (w.alloc (.cells #[.bool b, .string D, .int .i64 E, .int .i64 X] 23)) ha hD
      rw [size1] at R
      have hlen : (msd D.data.toList).length ≤ 100000 := by simp [msd]; omega
      clear ha
      generalize msd D.data.toList = L at R hlen ⊢
      go_enter Tryd.func10, Tryd.ntmps10
      go_wp2_with fail
      refine R.mono ?_
      rintro e w1 ⟨v1, rfl, hO1, hB1⟩
      obtain ⟨p1, c1, rfl, -, -, hr1, -⟩ := hO1.form
      have hw : Below w.heap.size w w1 := ((Below.refl _ w).alloc (Nat.le_refl _) _).trans (hB1.mono (by omega))
      have BA := bare_any p1 c1 L w1 hr1 hlen
      obtain ⟨r0, r1, r2, r3, -⟩ := res_cells hB1
      clear hB1 hO1 hr1 R
      cases hb : bareL L
      · rw [hb] at BA
        have HB : Hid (bareL L = false) := hb
        clear hb
        go_wp2_with fail
        refine BA.mono ?_
        rintro e w1 ⟨rfl, rfl⟩
        go_wp2
        go_ret
        exact ⟨ret_bool (by rw [HB.out]; rfl), hw⟩
      · rw [hb] at BA
        have HB : Hid (bareL L = true) := hb
        clear hb
        have hc : ¬ -2000000000 ≤ E ∨ (-2000000000 ≤ E ∧ ¬ E ≤ 2000000000) ∨ (-2000000000 ≤ E ∧ E ≤ 2000000000) := by omega
        rcases hc with g1 | ⟨g1, g2⟩ | ⟨g1, g2⟩
        · go_wp2_with fail
          refine BA.mono ?_
          rintro e w1 ⟨rfl, rfl⟩
          go_wp2
          go_ret
          exact ⟨ret_bool (by rw [HB.out]; simp <;> omega), hw⟩
        · go_wp2_with fail
          refine BA.mono ?_
          rintro e w1 ⟨rfl, rfl⟩
          go_wp2
          go_ret
          exact ⟨ret_bool (by rw [HB.out]; simp [g1, g2]), hw⟩
        · go_wp2_with fail
          refine BA.mono ?_
          rintro e w1 ⟨rfl, rfl⟩
          go_wp2
          go_ret
          exact ⟨ret_bool (by rw [HB.out]; simp [g1, g2]), hw⟩
  · have hd : digsOk D E = decide (E = 0) := by unfold digsOk; rw [h0]; rfl
    rw [hd]
    clear hd
    go_enter Tryd.func10, Tryd.ntmps10
    go_wp2
    go_ret
    exact ⟨ret_bool (by rw [Bool.eq_iff_iff]; simp), (Below.refl _ w).alloc (Nat.le_refl _) _⟩

def rightP (b : Bool) (D : ByteArray) (E X : Int) : Bool :=
  if X = 0 then digsOk D E else if X = 1 then D.toList.isEmpty && decide (E = 0) else if X = 2 then D.toList.isEmpty && (decide (E = 0) && !b) else false

set_option maxRecDepth 100000 in
set_option maxHeartbeats 400000 in
theorem Right_any (b : Bool) (D : ByteArray) (E X : Int) (w : World) (hD : D.size ≤ 100000) :
    Calls Tryd.prog 6 #[.agg #[.bool b, .string D, .int .i64 E, .int .i64 X]] w fun e w' => e = .returned (.bool (rightP b D E X)) ∧ Below w.heap.size w w' := by
  by_cases h0 : X = 0
  · subst h0
    have e : rightP b D E 0 = digsOk D E := by unfold rightP; rw [if_pos rfl]
    rw [e]
    have R := rightDigits_any b D E 0 (w.alloc (.cells #[.bool b, .string D, .int .i64 E, .int .i64 0] 23)) hD
    rw [size1] at R
    clear e
    go_enter Tryd.func6, Tryd.ntmps6
    go_wp2_with fail
    refine R.mono ?_
    rintro e w1 ⟨rfl, hB1⟩
    go_wp2
    go_ret
    exact ⟨rfl, ((Below.refl _ w).alloc (Nat.le_refl _) _).trans (hB1.mono (by omega))⟩
  · have t0 : (X == 0) = false := beq_false_of_ne h0
    by_cases h1 : X = 1
    · subst h1
      have e : rightP b D E 1 = (D.toList.isEmpty && decide (E = 0)) := by unfold rightP; rw [if_neg (by decide), if_pos rfl]
      rw [e]
      clear e h0 t0
      cases he : D.toList.isEmpty
      all_goals
        go_enter Tryd.func6, Tryd.ntmps6
        go_wp2
        go_ret
        exact ⟨ret_bool (by rw [Bool.eq_iff_iff]; simp), (Below.refl _ w).alloc (Nat.le_refl _) _⟩
    · have t1 : (X == 1) = false := beq_false_of_ne h1
      by_cases h2 : X = 2
      · subst h2
        have e : rightP b D E 2 = (D.toList.isEmpty && (decide (E = 0) && !b)) := by unfold rightP; rw [if_neg (by decide), if_neg (by decide), if_pos rfl]
        rw [e]
        clear e h0 h1 t0 t1
        cases he : D.toList.isEmpty
        · go_enter Tryd.func6, Tryd.ntmps6
          go_wp2
          go_ret
          exact ⟨rfl, (Below.refl _ w).alloc (Nat.le_refl _) _⟩
        · by_cases hE : E = 0
          · subst hE
            go_enter Tryd.func6, Tryd.ntmps6
            go_wp2
            go_ret
            exact ⟨rfl, (Below.refl _ w).alloc (Nat.le_refl _) _⟩
          · have tE : (E == 0) = false := beq_false_of_ne hE
            go_enter Tryd.func6, Tryd.ntmps6
            go_wp2
            go_ret
            exact ⟨ret_bool (by simp [hE]), (Below.refl _ w).alloc (Nat.le_refl _) _⟩
      · have t2 : (X == 2) = false := beq_false_of_ne h2
        have e : rightP b D E X = false := by unfold rightP; rw [if_neg h0, if_neg h1, if_neg h2]
        rw [e]
        clear e h0 h1 h2
        go_enter Tryd.func6, Tryd.ntmps6
        go_wp2
        go_ret
        exact ⟨rfl, (Below.refl _ w).alloc (Nat.le_refl _) _⟩

/-- What Itoa writes. -/
def itoaB (e : Int) : ByteArray := if e < 0 then ⟨#[45]⟩ ++ decB (-e).toNat else decB e.toNat
set_option maxRecDepth 100000 in
set_option maxHeartbeats 400000 in
theorem itoa_any (e : Int) (w : World) (h0 : -9000000000000000000 ≤ e) (h1 : e ≤ 9000000000000000000) :
    Calls Tryd.prog 12 #[.int .i64 e] w fun r w' => r = .returned (.string (itoaB e)) ∧ w' = w := by
  unfold itoaB
  by_cases h : e < 0
  · rw [if_pos h]
    have DG := fun w => digits_any (-e).toNat w (by omega)
    have hc : (((-e).toNat : Nat) : Int) = -e := by omega
    have hs := dec_size (-e).toNat (by omega)
    have A := fun w => run_string_add_sum (P := Tryd.prog) w ⟨#[45]⟩ (decB (-e).toNat) (by show 1 + (decB (-e).toNat).size ≤ _; omega)
    rw [hc] at DG
    generalize (⟨#[45]⟩ : ByteArray) ++ decB (-e).toNat = T at A ⊢
    generalize decB (-e).toNat = D at DG A
    clear hc hs
    go_enter Tryd.func12, Tryd.ntmps12
    go_wp2_with fail
    refine (DG _).mono ?_
    rintro e' w1 ⟨rfl, rfl⟩
    go_wp2
    go_ret
    exact ⟨rfl, rfl⟩
  · rw [if_neg h]
    have DG := fun w => digits_any e.toNat w (by omega)
    have hc : ((e.toNat : Nat) : Int) = e := by omega
    rw [hc] at DG
    generalize decB e.toNat = D at DG ⊢
    clear hc
    go_enter Tryd.func12, Tryd.ntmps12
    go_wp2_with fail
    refine (DG _).mono ?_
    rintro e' w1 ⟨rfl, rfl⟩
    go_wp2
    go_ret
    exact ⟨rfl, rfl⟩
end Go.Proofs.YtkhkgoimcbnpaaaDoor
