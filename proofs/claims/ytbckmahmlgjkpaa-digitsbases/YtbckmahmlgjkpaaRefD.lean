/- The document's AddDigits, LessDigits, TimesDigits, PlainDigits. -/
import Derived.Test.YtbckmahmlgjkpaaRefC
import Derived.Test.YtbckmahmlgjkpaaPlus
set_option linter.unusedVariables false
set_option linter.unusedSimpArgs false
namespace Go.Proofs.Ytbckmahmlgjkpaa
open Go.RowKit

theorem byte_digit {a b : Nat} (ha : a < 10) (hb : b < 10) : (decide (UInt8.ofNat (48 + a) < UInt8.ofNat (48 + b)) = decide (a < b)) ∧ ((UInt8.ofNat (48 + a) == UInt8.ofNat (48 + b)) = decide (a = b)) := by
  have h1 : (UInt8.ofNat (48 + a)).toNat = 48 + a := by simp; omega
  have h2 : (UInt8.ofNat (48 + b)).toNat = 48 + b := by simp; omega
  constructor
  · rw [decide_eq_decide, UInt8.lt_iff_toNat_lt, h1, h2]; omega
  · rw [Bool.eq_iff_iff, beq_iff_eq, decide_eq_true_iff]
    constructor
    · intro e
      have := congrArg UInt8.toNat e
      rw [h1, h2] at this
      omega
    · intro e; rw [e]

theorem less_lists : ∀ (l m : List Nat), l.length = m.length → Dg 10 l → Dg 10 m → Op.bytesLess (l.map fun d => UInt8.ofNat (48 + d)) (m.map fun d => UInt8.ofNat (48 + d)) = decide (val 10 l.reverse < val 10 m.reverse)
  | [], [], _, _, _ => by simp [Op.bytesLess, val]
  | [], _ :: _, h, _, _ => by simp at h
  | _ :: _, [], h, _, _ => by simp at h
  | a :: x, b :: y, h, dl, dm => by
    have hl : x.length = y.length := by simpa using h
    have dx : Dg 10 x := fun d hd => dl d (List.mem_cons_of_mem _ hd)
    have dy : Dg 10 y := fun d hd => dm d (List.mem_cons_of_mem _ hd)
    have ih := less_lists x y hl dx dy
    have ha := dl a (List.mem_cons_self ..)
    have hb := dm b (List.mem_cons_self ..)
    obtain ⟨e1, e2⟩ := byte_digit ha hb
    have b1 := val_lt (b := 10) (by decide) (l := x.reverse) (fun d hd => dx d (List.mem_reverse.1 hd))
    have b2 := val_lt (b := 10) (by decide) (l := y.reverse) (fun d hd => dy d (List.mem_reverse.1 hd))
    rw [List.length_reverse] at b1 b2
    rw [← hl] at b2
    rw [List.map_cons, List.map_cons, Op.bytesLess, e1, e2, ih, List.reverse_cons, List.reverse_cons, val_snoc, val_snoc, List.length_reverse, List.length_reverse, ← hl]
    generalize val 10 x.reverse = u at *
    generalize val 10 y.reverse = v at *
    generalize 10 ^ x.length = q at *
    rw [Bool.eq_iff_iff]
    simp only [Bool.or_eq_true, Bool.and_eq_true, decide_eq_true_iff]
    constructor
    · rintro (h | ⟨rfl, h⟩)
      · have := Nat.mul_le_mul_left q h
        rw [Nat.succ_eq_add_one, Nat.mul_add, Nat.mul_one] at this
        omega
      · omega
    · intro h
      rcases Nat.lt_trichotomy a b with h1 | h1 | h1
      · exact .inl h1
      · subst h1; exact .inr ⟨rfl, by omega⟩
      · have := Nat.mul_le_mul_left q h1
        rw [Nat.succ_eq_add_one, Nat.mul_add, Nat.mul_one] at this
        omega

/-- The digits that are written of a number, the least first. -/
def dl (n : Nat) : List Nat := if n = 0 then [0] else carP 10 n
theorem dl_val (n : Nat) : val 10 (dl n) = n := by
  unfold dl
  split
  · rename_i h; rw [h]; rfl
  · exact carP_val (by decide) n
theorem dl_dg (n : Nat) : Dg 10 (dl n) := by
  unfold dl
  split
  · intro d h; simp at h; omega
  · exact carP_dg (by decide) n
theorem dec_list (n : Nat) : (decB n).data.toList = (dl n).reverse.map fun d => UInt8.ofNat (48 + d) := by
  unfold dl decB
  split
  · rename_i h; rw [h, carP_zero]; rfl
  · rename_i h
    unfold textB
    rw [if_neg (by rw [carP_pos (by decide) (by omega)]; simp)]
theorem dec_sz (n : Nat) : (decB n).size = (dl n).length := by
  have := congrArg List.length (dec_list n)
  simpa using this
theorem dl_short {m n : Nat} (h : (dl m).length < (dl n).length) : m < n := by
  have h1 := val_lt (b := 10) (by decide) (dl_dg m)
  rw [dl_val] at h1
  have hm : 1 ≤ (dl m).length := by
    unfold dl
    split
    · simp
    · rw [carP_pos (by decide) (by omega)]; simp
  have hn : n ≠ 0 := by
    rintro rfl
    rw [show dl 0 = [0] from rfl, List.length_singleton] at h
    omega
  have e : dl n = carP 10 n := by unfold dl; rw [if_neg hn]
  have h2 := canon_low (b := 10) (by decide) (canon_carP (b := 10) (by decide) n) (by rw [carP_pos (b := 10) (by decide) (by omega)]; simp)
  rw [carP_val (by decide), ← e] at h2
  have h3 : 10 ^ (dl m).length ≤ 10 ^ ((dl n).length - 1) := Nat.pow_le_pow_right (by decide) (by omega)
  omega
theorem dec_less_ne {m n : Nat} (h : (decB m).size ≠ (decB n).size) : decide ((decB m).size < (decB n).size) = decide (m < n) := by
  rw [dec_sz, dec_sz] at *
  rw [decide_eq_decide]
  rcases Nat.lt_or_gt_of_ne h with h | h
  · have := dl_short h; omega
  · have := dl_short h; omega
theorem dec_less_eq {m n : Nat} (h : (decB m).size = (decB n).size) : Op.bytesLess (decB m).toList (decB n).toList = decide (m < n) := by
  rw [dec_sz, dec_sz] at h
  rw [ByteArray.toList_eq, ByteArray.toList_eq, dec_list, dec_list, less_lists _ _ (by simpa using h) (fun d hd => dl_dg m d (List.mem_reverse.1 hd)) (fun d hd => dl_dg n d (List.mem_reverse.1 hd)), List.reverse_reverse, List.reverse_reverse, dl_val, dl_val]

set_option maxRecDepth 100000 in
set_option maxHeartbeats 1000000 in
theorem LessDigits_any (a b : ByteArray) (w : World) :
    Calls Try.prog 14 #[.string a, .string b] w fun e w' => e = .returned (.bool (decide (num a < num b))) ∧ Below w.heap.size w w' := by
  have nA := rnum_len a
  have nB := rnum_len b
  go_enter Try.func14, Try.ntmps14
  go_wp2_with fail
  refine (rnumber_any a _).mono ?_
  rintro e w1 ⟨v1, rfl, hO1, hB1⟩
  obtain ⟨p1, c1, rfl, -, -, hr1, -⟩ := hO1.form
  have WA := written_any p1 c1 (rnum a) w1 hr1 nA.1 (rnum_dg a) (by omega)
  rw [rnum_val] at WA
  go_wp2_with fail
  refine WA.mono ?_
  rintro e w2 ⟨rfl, hB2⟩
  go_wp2_with fail
  refine (rnumber_any b _).mono ?_
  rintro e w3 ⟨v3, rfl, hO3, hB3⟩
  obtain ⟨p3, c3, rfl, -, -, hr3, -⟩ := hO3.form
  have WB := written_any p3 c3 (rnum b) w3 hr3 nB.1 (rnum_dg b) (by omega)
  rw [rnum_val] at WB
  go_wp2_with fail
  refine WB.mono ?_
  rintro e w4 ⟨rfl, hB4⟩
  have hB : Below w.heap.size w w4 := (hB1.trans (hB2.mono hB1.size)).trans ((hB3.mono (Nat.le_trans hB1.size hB2.size)).trans (hB4.mono (Nat.le_trans (Nat.le_trans hB1.size hB2.size) hB3.size)))
  clear WA WB hr1 hr3 hO1 hO3
  by_cases hs : (decB (num a)).size = (decB (num b)).size
  · have hL := dec_less_eq hs
    have ht : (((decB (num a)).size : Int) != ((decB (num b)).size : Int)) = false := by rw [hs]; simp
    clear hs
    go_wp2
    go_ret
    exact ⟨rfl, hB⟩
  · have hL := dec_less_ne hs
    have ht : (((decB (num a)).size : Int) != ((decB (num b)).size : Int)) = true := by simp; omega
    have HL : Hid _ := hL
    clear hs hL
    go_wp2
    go_ret
    exact ⟨ret_bool HL.out, hB⟩

set_option maxRecDepth 100000 in
set_option maxHeartbeats 1000000 in
theorem TimesDigits_yes (a : ByteArray) (m : Nat) (w : World) (hm : m ≤ 1000000) :
    Calls Try.prog 16 #[.string a, .int .i64 m] w fun e w' => e = .returned (.string (decB (m * num a))) ∧ Below w.heap.size w w' := by
  have h0 : ¬ (m : Int) < 0 := by omega
  have h1 : ¬ (1000000 : Int) < m := by omega
  have nA := rnum_len a
  go_enter Try.func16, Try.ntmps16
  go_wp2_with fail
  refine (rnumber_any a _).mono ?_
  rintro e w1 ⟨v1, rfl, hO1, hB1⟩
  obtain ⟨p1, c1, rfl, -, -, hr1, -⟩ := hO1.form
  have TM := rtimes_any p1 c1 (rnum a) m 0 w1 hr1 nA.1 (rnum_dg a) hm (by omega) (by omega)
  go_wp2_with fail
  refine TM.mono ?_
  rintro e w3 ⟨v3, l3, rfl, hO3, hB3, d3, k3, e3, n3⟩
  obtain ⟨p3, c3, rfl, -, -, hr3, -⟩ := hO3.form
  have WA := written_any p3 c3 l3 w3 hr3 k3 d3 (by omega)
  rw [e3, rnum_val, Nat.add_zero] at WA
  clear e3 TM
  go_wp2_with fail
  refine WA.mono ?_
  rintro e w4 ⟨rfl, hB4⟩
  go_wp2
  go_ret
  exact ⟨rfl, (hB1.trans (hB3.mono hB1.size)).trans (hB4.mono (Nat.le_trans hB1.size hB3.size))⟩

set_option maxRecDepth 100000 in
set_option maxHeartbeats 1000000 in
theorem TimesDigits_no (a : ByteArray) (n : Int) (w : World) (hn : n < 0 ∨ 1000000 < n) :
    Calls Try.prog 16 #[.string a, .int .i64 n] w fun e w' => e = .returned (.string (decB 0)) ∧ Below w.heap.size w w' := by
  rw [show decB 0 = ⟨#[48]⟩ from by unfold decB; rw [carP_zero]; rfl]
  rcases hn with h | h
  · go_enter Try.func16, Try.ntmps16
    go_wp2
    go_ret
    exact ⟨rfl, Below.refl _ _⟩
  · have h' : ¬ n < 0 := by omega
    go_enter Try.func16, Try.ntmps16
    go_wp2
    go_ret
    exact ⟨rfl, Below.refl _ _⟩
end Go.Proofs.Ytbckmahmlgjkpaa
