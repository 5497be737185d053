/- The document's own: RightNumber of any number, NumberText. -/
import Derived.Test.YtkhkgoimcbnpaaaDoorRNum
set_option linter.unusedVariables false
set_option linter.unusedSimpArgs false
namespace Go.Proofs.YtkhkgoimcbnpaaaDoor
open Go.RowKit

set_option maxRecDepth 100000 in
set_option maxHeartbeats 1000000 in
theorem rnum_any (b : Bool) (D : ByteArray) (E X : Int) (w : World) (hs : (D.size : Int) ≤ 4611686018427387904) :
    Calls Tryd.prog 5 #[.agg #[.bool b, .string D, .int .i64 E, .int .i64 X]] w fun e w' => e = .returned (.bool (rightP b D E X)) ∧ Below w.heap.size w w' := by
  by_cases h0 : X = 0
  · subst h0
    have e : rightP b D E 0 = digsOk D E := by unfold rightP; rw [if_pos rfl]
    rw [e]
    cases hd : D.data.toList.all isD
    · have e2 : digsOk D E = false := by
        unfold digsOk
        rw [hd, Bool.false_and]
        by_cases h : (D.toList == [48]) = true
        · have h' : D.data.toList = [48] := by rw [← Lib.toList_data]; exact eq_of_beq h
          rw [h'] at hd
          exact absurd hd (by decide)
        · rw [if_neg h]
      rw [e2]
      exact rnum_bad b D E w hs hd
    · exact rnum_good b D E w hs hd
  · have t0 : (X == 0) = false := beq_false_of_ne h0
    by_cases h1 : X = 1
    · subst h1
      have e : rightP b D E 1 = (D.toList.isEmpty && decide (E = 0)) := by unfold rightP; rw [if_neg (by decide), if_pos rfl]
      rw [e]
      clear e h0 t0
      cases he : D.toList.isEmpty
      · go_enter Tryd.func5, Tryd.ntmps5
        go_wp2
        go_ret
        exact ⟨rfl, (Below.refl _ w).alloc (Nat.le_refl _) _⟩
      · by_cases hE : E = 0
        · subst hE
          go_enter Tryd.func5, Tryd.ntmps5
          go_wp2
          go_ret
          exact ⟨rfl, (Below.refl _ w).alloc (Nat.le_refl _) _⟩
        · have tE : (E == 0) = false := beq_false_of_ne hE
          go_enter Tryd.func5, Tryd.ntmps5
          go_wp2
          go_ret
          exact ⟨ret_bool (by simp [hE]), (Below.refl _ w).alloc (Nat.le_refl _) _⟩
    · have t1 : (X == 1) = false := beq_false_of_ne h1
      by_cases h2 : X = 2
      · subst h2
        have e : rightP b D E 2 = (D.toList.isEmpty && (decide (E = 0) && !b)) := by unfold rightP; rw [if_neg (by decide), if_neg (by decide), if_pos rfl]
        rw [e]
        clear e h0 h1 t0 t1
        cases he : D.toList.isEmpty
        · go_enter Tryd.func5, Tryd.ntmps5
          go_wp2
          go_ret
          exact ⟨rfl, (Below.refl _ w).alloc (Nat.le_refl _) _⟩
        · by_cases hE : E = 0
          · subst hE
            go_enter Tryd.func5, Tryd.ntmps5
            go_wp2
            go_ret
            exact ⟨rfl, (Below.refl _ w).alloc (Nat.le_refl _) _⟩
          · have tE : (E == 0) = false := beq_false_of_ne hE
            go_enter Tryd.func5, Tryd.ntmps5
            go_wp2
            go_ret
            exact ⟨ret_bool (by simp [hE]), (Below.refl _ w).alloc (Nat.le_refl _) _⟩
      · have t2 : (X == 2) = false := beq_false_of_ne h2
        have e : rightP b D E X = false := by unfold rightP; rw [if_neg h0, if_neg h1, if_neg h2]
        rw [e]
        clear e h0 h1 h2
        go_enter Tryd.func5, Tryd.ntmps5
        go_wp2
        go_ret
        exact ⟨rfl, (Below.refl _ w).alloc (Nat.le_refl _) _⟩

/-- The text of a number, as the document writes it. -/
def mB (b : Bool) : ByteArray := if b then ⟨#[45]⟩ else ⟨#[]⟩
def textP (b : Bool) (D : ByteArray) (E X : Int) : ByteArray :=
  if X = 2 then ⟨#[46, 110, 97, 110]⟩ else if X = 1 then mB b ++ ⟨#[46, 105, 110, 102]⟩ else if E = 0 then mB b ++ D else mB b ++ D ++ ⟨#[101]⟩ ++ itoaB E

theorem m_size (b : Bool) : (mB b).size ≤ 1 := by cases b <;> decide
theorem itoa_le {e : Int} (h0 : -2000000000 ≤ e) (h1 : e ≤ 2000000000) : (itoaB e).size ≤ 65 := by
  unfold itoaB
  split
  · have := dec_size (-e).toNat (by omega)
    rw [ByteArray.size_append]
    have : (⟨#[45]⟩ : ByteArray).size = 1 := rfl
    omega
  · have := dec_size e.toNat (by omega)
    omega

set_option maxRecDepth 100000 in
set_option maxHeartbeats 1000000 in
theorem rtext_any (b : Bool) (D : ByteArray) (E X : Int) (w : World) (hs : D.size ≤ 200) (h0 : -2000000000 ≤ E) (h1 : E ≤ 2000000000) :
    Calls Tryd.prog 8 #[.agg #[.bool b, .string D, .int .i64 E, .int .i64 X]] w fun e w' => e = .returned (.string (textP b D E X)) ∧ Below w.heap.size w w' := by
  by_cases x2 : X = 2
  · subst x2
    have e : textP b D E 2 = ⟨#[46, 110, 97, 110]⟩ := by unfold textP; rw [if_pos rfl]
    rw [e]
    clear e
    cases b
    all_goals
      go_enter Tryd.func8, Tryd.ntmps8
      go_wp2
      go_ret
      exact ⟨rfl, (Below.refl _ w).alloc (Nat.le_refl _) _⟩
  · have t2 : (X == 2) = false := beq_false_of_ne x2
    by_cases x1 : X = 1
    · subst x1
      have e : textP b D E 1 = mB b ++ ⟨#[46, 105, 110, 102]⟩ := by unfold textP; rw [if_neg (by decide), if_pos rfl]
      rw [e]
      clear e
      cases b
      all_goals
        go_enter Tryd.func8, Tryd.ntmps8
        go_wp2
        go_ret
        exact ⟨rfl, (Below.refl _ w).alloc (Nat.le_refl _) _⟩
    · have t1 : (X == 1) = false := beq_false_of_ne x1
      have hm := m_size b
      by_cases hE : E = 0
      · subst hE
        have e : textP b D 0 X = mB b ++ D := by unfold textP; rw [if_neg x2, if_neg x1, if_pos rfl]
        rw [e]
        have A := fun w => run_string_add_sum (P := Tryd.prog) w (mB b) D (by omega)
        generalize mB b ++ D = T at A ⊢
        clear e hm
        cases b
        all_goals
          unfold mB at A
          simp only [Bool.false_eq_true, if_true, if_false] at A
          go_enter Tryd.func8, Tryd.ntmps8
          go_wp2
          go_ret
          exact ⟨rfl, (Below.refl _ w).alloc (Nat.le_refl _) _⟩
      · have tE : (E == 0) = false := beq_false_of_ne hE
        have e : textP b D E X = mB b ++ D ++ ⟨#[101]⟩ ++ itoaB E := by unfold textP; rw [if_neg x2, if_neg x1, if_neg hE]
        rw [e]
        have hi := itoa_le h0 h1
        have hz1 : (mB b ++ D).size ≤ 201 := by rw [ByteArray.size_append]; omega
        have hz2 : (mB b ++ D ++ ⟨#[101]⟩).size ≤ 202 := by rw [ByteArray.size_append]; have : (⟨#[101]⟩ : ByteArray).size = 1 := rfl; omega
        have A := fun w => run_string_add_sum (P := Tryd.prog) w (mB b) D (by omega)
        have A2 := fun w => run_string_add_sum (P := Tryd.prog) w (mB b ++ D) ⟨#[101]⟩ (by have : (⟨#[101]⟩ : ByteArray).size = 1 := rfl; omega)
        have A3 := fun w => run_string_add_sum (P := Tryd.prog) w (mB b ++ D ++ ⟨#[101]⟩) (itoaB E) (by omega)
        have IT := fun w => itoa_any E w (by omega) (by omega)
        generalize mB b ++ D ++ ⟨#[101]⟩ ++ itoaB E = T3 at A3 ⊢
        generalize mB b ++ D ++ ⟨#[101]⟩ = T2 at A2 A3
        generalize mB b ++ D = T1 at A A2
        generalize itoaB E = I at A3 IT
        clear e hm hi hz1 hz2
        cases b
        all_goals
          unfold mB at A
          simp only [Bool.false_eq_true, if_true, if_false] at A
          go_enter Tryd.func8, Tryd.ntmps8
          go_wp2_with fail
          refine (IT _).mono ?_
          rintro e' w1 ⟨rfl, rfl⟩
          go_wp2
          go_ret
          exact ⟨rfl, (Below.refl _ w).alloc (Nat.le_refl _) _⟩
end Go.Proofs.YtkhkgoimcbnpaaaDoor
