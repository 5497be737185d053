/- UtfPoints answers true for any bytes. -/
import Derived.Test.YtdkodepeglpimaaDoorRefPts4
import Derived.Test.YtdkodepeglpimaaDoorAlive
set_option linter.unusedVariables false
set_option linter.unusedSimpArgs false
namespace Go.Proofs.YtdkodepeglpimaaDoor
open Go.RowKit Go.Shelf

theorem guessed_cases (l : List UInt8) : guessedP l = 1 ∨ guessedP l = 2 ∨ guessedP l = 3 ∨ guessedP l = 4 ∨ guessedP l = 5 := by
  unfold guessedP
  repeat' split
  all_goals simp
theorem form_cases (l : List UInt8) : (formP l).1 = 1 ∨ (formP l).1 = 2 ∨ (formP l).1 = 3 ∨ (formP l).1 = 4 ∨ (formP l).1 = 5 := by
  unfold formP
  split
  · rename_i h
    revert h
    unfold markedP
    repeat' split
    all_goals simp
  · exact guessed_cases l

theorem PRes.pts {l : List UInt8} {m : Nat} {ec : Int} {v : Value} {base : Nat} {W' : World} (hlong : ¬ 1048576 < l.length) (hm : (formP l).2 = m) (h : PRes (rightP (formP l).1 (l.drop m)) (ptsP (formP l).1 (l.drop m)) ec v base W') :
    ec = (ptsOf l).2 ∧ W'.ownsRow base 3 1 v (ptsOf l).1.length ((ptsOf l).1.map (.int .i64)) := by
  unfold ptsOf
  rw [if_neg hlong, hm, Int.toNat_natCast]
  rcases h with ⟨hr, rfl, ho⟩ | ⟨hr, rfl, rfl⟩
  · rw [if_pos hr]; exact ⟨rfl, ho⟩
  · rw [if_neg (by simp [hr])]; exact ⟨rfl, World.ownsRow_nil _ _ _ _⟩

theorem refPts_any (p : Option Addr) (l : List UInt8) (cap : Nat) (w : World) (hn : (l.length : Int) ≤ 1048576) (hl : l.length ≤ cap) (hc : cap ≤ maxLen) (hL : Lies w.heap.size w p l) :
    Calls Tryd.prog 10 #[.slice p l.length cap] w fun e w' => ∃ v, e = .returned (.tuple #[v, .int .i64 (ptsOf l).2]) ∧ w'.ownsRow w.heap.size 3 1 v (ptsOf l).1.length ((ptsOf l).1.map (.int .i64)) ∧ Below w.heap.size w w' := by
  obtain ⟨f0, f1⟩ := form_size l
  obtain ⟨m, hm⟩ := Int.eq_ofNat_of_zero_le f0
  have hml : m ≤ l.length := by omega
  have F := refForm_any p l cap w hn hL.1 hL.2.2.2
  rw [hm] at F
  have hsl : ∀ w2, (Instr.slice 22 (.slice p l.length cap) (some (.int .i64 m)) none none).run Tryd.prog w2 = .ok (.slice (if cap = m then p else p.map (·.add m)) (l.drop m).length (cap - m)) w2 := fun w2 => by rw [slice_from p l.length cap m hml hl w2, List.length_drop]
  have hL' := hL.from cap m hl
  have hbl : ((l.drop m).length : Int) ≤ 1048576 := by simp; omega
  have hcm : (l.drop m).length ≤ cap - m := by simp; omega
  have fin : ∀ (R : Ending → World → Prop), (∀ e w', (∃ v ec, e = .returned (.tuple #[v, .int .i64 ec]) ∧ Below w.heap.size w w' ∧ PRes (rightP (formP l).1 (l.drop m)) (ptsP (formP l).1 (l.drop m)) ec v w.heap.size w') → R e w') → Calls Tryd.prog 10 #[.slice p l.length cap] w R := by
    intro R hR
    rcases form_cases l with h | h | h | h | h
    · rw [h] at hR F; exact (refPts_one p _ l.length cap m (l.drop m) w hn hbl hcm hc F hsl hL'.1 hL'.2.2.2).mono hR
    · rw [h] at hR F; exact (refPts_two p _ l.length cap m (l.drop m) w hn hbl hcm hc F hsl hL'.1 hL'.2.2.2).mono hR
    · rw [h] at hR F; exact (refPts_three p _ l.length cap m (l.drop m) w hn hbl hcm hc F hsl hL'.1 hL'.2.2.2).mono hR
    · rw [h] at hR F; exact (refPts_four p _ l.length cap m (l.drop m) w hn hbl hcm hc F hsl hL'.1 hL'.2.2.2).mono hR
    · rw [h] at hR F; exact (refPts_five p _ l.length cap m (l.drop m) w hn hbl hcm hc F hsl hL'.1 hL'.2.2.2).mono hR
  refine fin _ ?_
  rintro e w' ⟨v, ec, rfl, hb, hP⟩
  obtain ⟨rfl, ho⟩ := PRes.pts (by omega) hm hP
  exact ⟨v, rfl, ho, hb⟩

theorem seqS_len (f : Int) (k : Nat) (l : List UInt8) : (seqS f k l).length ≤ l.length := by
  induction l generalizing k with
  | nil => cases k <;> simp [seqS]
  | cons x t ih =>
    cases k with
    | succ k => rw [seqS]; have := ih k; simp; omega
    | zero =>
      rw [seqS]
      split
      · simp
      · have := ih ((firstP f (x :: t)).2.toNat - 1)
        simp
        omega
theorem pts_len (l : List UInt8) : (ptsOf l).1.length ≤ l.length := by
  unfold ptsOf
  split
  · simp
  · split
    · unfold ptsP
      have := seqS_len (formP l).1 0 (l.drop (formP l).2.toNat)
      simp at this ⊢
      omega
    · simp

theorem row_is {W W' : World} {base : Nat} {v : Value} {ps : List Int} (h : W.ownsRow base 3 1 v ps.length (ps.map (.int .i64))) (hB : Below W.heap.size W W') : ∃ a c, v = .slice a ps.length c ∧ Is W' a ps := by
  obtain ⟨a, k, c, rfl⟩ := ownsRow_form h
  obtain ⟨hI, rfl, -, -, -⟩ := is_of_row h
  exact ⟨a, c, rfl, hI.below (fun x e => by subst e; exact (h.lt x.block rfl).2) hB⟩

set_option maxRecDepth 100000 in
set_option maxHeartbeats 1000000 in
theorem points_law_long (p : Option Addr) (n cap : Nat) (w : World) (hn : 2000 < (n : Int)) (hT : Lib.Utf8Tabs 0 1 w) (h1 : 1 < w.heap.size) :
    Calls Tryd.prog 3 #[.slice p n cap] w fun e w' => e = .returned (.bool true) ∧ Below w.heap.size w w' := by
  have A := alive_any w hT h1
  clear hT
  go_enter Tryd.func3, Tryd.ntmps3
  go_wp2_with (go_at_call 8; refine A.mono ?_; rintro e w1 ⟨rfl, hb⟩)
  go_ret
  exact ⟨rfl, hb⟩

set_option maxRecDepth 100000 in
set_option maxHeartbeats 1000000 in
theorem points_law (p : Option Addr) (l : List UInt8) (cap : Nat) (w : World) (hn : (l.length : Int) ≤ 2000) (hl : l.length ≤ cap) (hc : cap ≤ maxLen) (hL : Lies w.heap.size w p l) :
    Calls Tryd.prog 3 #[.slice p l.length cap] w fun e w' => e = .returned (.bool true) ∧ Below w.heap.size w w' := by
  have A := alive_any w hL.2.1 hL.2.2.1
  have up : ∀ W, Below w.heap.size w W → Lies W.heap.size W p l := fun W hB => ⟨(hL.below hB).1, (hL.below hB).2.1, by have := hL.2.2.1; have := hB.size; omega, fun a e hh => by have := hL.2.2.2 a e hh; have := hB.size; omega⟩
  have P := fun W hB => Points_any p l cap W hl hc (up W hB)
  have Q := fun W hB => refPts_any p l cap W (by omega) hl hc (up W hB)
  have F := fun W hB => form_any p l cap W hl hc (up W hB).1
  have G := fun W hB => refForm_any p l cap W (by omega) (up W hB).1 (up W hB).2.2.2
  have hpl : ((ptsOf l).1.length : Int) ≤ 1048576 := by have := pts_len l; omega
  have S := fun a c (d : Nat) (b : Option Addr) W (h1 : Is W a (ptsOf l).1) (h2 : Is W b (ptsOf l).1) => same_same a b (ptsOf l).1 c d W hpl h1 h2
  clear up hL hpl
  generalize ptsOf l = pe at P Q S
  obtain ⟨ps, ec⟩ := pe
  generalize formP l = fe at F G
  obtain ⟨fa, fb⟩ := fe
  dsimp only at P Q S F G
  unfold maxLen at hc
  go_enter Tryd.func3, Tryd.ntmps3
  go_wp2_with (first | (go_at_call 8; refine A.mono ?_; rintro e w1 ⟨rfl, hb⟩) | (go_at_call 9; refine (P _ hb).mono ?_; rintro e w2 ⟨v1, rfl, ho1, hb1⟩; have hb2 := hb.trans (hb1.mono hb.size)) | (go_at_call 10; refine (Q _ hb2).mono ?_; rintro e w3 ⟨v2, rfl, ho2, hb3⟩; have hb4 := hb2.trans (hb3.mono hb2.size)) | (go_at_call 11; refine (F _ hb4).mono ?_; rintro e w' ⟨rfl, rfl⟩) | (go_at_call 12; refine (G _ hb4).mono ?_; rintro e w5 ⟨rfl, hb5⟩; have hb6 := hb4.trans (hb5.mono hb4.size); obtain ⟨a1, c1, rfl, I1⟩ := row_is ho1 (hb3.trans (hb5.mono hb3.size)); obtain ⟨a2, c2, rfl, I2⟩ := row_is ho2 hb5) | (go_at_call 13; refine (num_any _ _).mono ?_; rintro e w' ⟨rfl, rfl⟩) | (go_at_call 14; refine (S _ _ _ _ _ I1 I2).mono ?_; rintro e w' ⟨rfl, kk, rfl⟩))
  go_ret
  exact ⟨rfl, below_drewN hb6 _⟩
end Go.Proofs.YtdkodepeglpimaaDoor
