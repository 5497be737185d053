/- Whole numbers: decimal.Int and the document's own. -/
import Derived.Test.YtpffegkckejpiaaTidy
import Derived.Test.YtpffegkckejpiaaShelf
set_option linter.unusedVariables false
set_option linter.unusedSimpArgs false
set_option maxRecDepth 100000
namespace Go.Proofs.Ytpffegkckejpiaa
open Go.RowKit

def preO (s : ByteArray) : Bool := Lib.hasPrefix s.data.toList [48, 111]
def preX (s : ByteArray) : Bool := Lib.hasPrefix s.data.toList [48, 120]
def tail2 (s : ByteArray) : ByteArray := s.extract 2 s.size

theorem trim2 (s : ByteArray) (a b : UInt8) : (⟨(Lib.trimPrefix s.data.toList [a, b]).toArray⟩ : ByteArray) = if Lib.hasPrefix s.data.toList [a, b] then tail2 s else s := by
  unfold Lib.trimPrefix
  split
  · unfold tail2
    rw [Lib.extract_eq, List.take_of_length_le (by simp)]
    rfl
  · exact Lib.mk_data s

def baseOf (s : ByteArray) : Nat := if preO s then 8 else if preX s then 16 else 10
def bodyOf (s : ByteArray) : ByteArray := if preO s then tail2 s else if preX s then tail2 s else restB s
def intV (s : ByteArray) : Value :=
  if okS (bodyOf s) (baseOf s) then .tuple #[numV (negB s && decide (numB (bodyOf s) (baseOf s) ≠ 0)) (numB (bodyOf s) (baseOf s)) 0, .bool true] else .tuple #[zV, .bool false]

theorem dec_bound {s : ByteArray} {base : Nat} (h : okS s base = true) : (decB (numB s base)).size ≤ 20000 := by
  have hs := okS_iff.1 h
  have hb := baseP_iff.1 hs.1
  have h1 := val_lt (by omega) (lsd_dg h)
  rw [lsd_len] at h1
  have h2 : base ^ s.size ≤ 16 ^ s.size := Nat.pow_le_pow_left (by omega) _
  have h3 : (16 : Nat) ^ s.size = 2 ^ (4 * s.size) := by rw [Nat.pow_mul]
  have h4 : numB s base < 2 ^ (4 * s.size) := by unfold numB; rw [← h3]; exact Nat.lt_of_lt_of_le h1 h2
  have h5 := carP_len (b := 10) (by decide) _ _ h4
  rw [dec_sz]
  unfold dl
  split
  · simp
  · omega

theorem signed_b (s : ByteArray) (w : World) :
    Calls Try.prog 36 #[.string s] w fun e w' => e = .returned (.tuple #[.bool (negB s), .string (restB s)]) ∧ Below w.heap.size w w' :=
  (signed_any s w).mono fun e w' ⟨h, k, hk⟩ => ⟨h, by rw [hk]; exact below_drewN (Below.refl _ _) k⟩

theorem dec_ne (n : Nat) : ((decB n).toList == [48]) = !decide (n ≠ 0) := by
  rw [Lib.toList_data]
  by_cases h : n = 0
  · subst h; rw [dec_zero]; rfl
  · have : (decB n).data.toList ≠ [48] := by
      intro e
      exact h ((dec_zero_iff n).1 (by rw [← Lib.mk_data (decB n), e]))
    simp [this, h]

def zC : Obj := .cells #[.bool false, .string ⟨#[]⟩, .int .i64 0, .int .i64 0] 27

theorem zC_below {w W : World} (hB : Below (w.heap.size + 1) (w.alloc zC) W) : Below w.heap.size w W := ((Below.refl _ w).alloc (Nat.le_refl _) _).trans (hB.mono (by omega))

/-- What stands ahead: how s is read. -/
def Cs (s body : ByteArray) (base : Nat) : Prop :=
  (preO s = true ∧ body = tail2 s ∧ base = 8) ∨ (preO s = false ∧ preX s = true ∧ body = tail2 s ∧ base = 16) ∨ (preO s = false ∧ preX s = false ∧ body = restB s ∧ base = 10)
theorem cs_any (s : ByteArray) : Cs s (bodyOf s) (baseOf s) := by
  unfold Cs bodyOf baseOf
  cases preO s <;> cases preX s <;> simp

theorem cutO (s : ByteArray) (w : World) : Calls Try.prog 37 #[.string s, .string ⟨#[48, 111]⟩] w fun e w' => e = .returned (.tuple #[.string (if preO s then tail2 s else s), .bool (preO s)]) ∧ w' = w := by
  have := Try.strings_CutPrefix s ⟨#[48, 111]⟩ w
  rwa [trim2] at this
theorem cutX (s : ByteArray) (w : World) : Calls Try.prog 37 #[.string s, .string ⟨#[48, 120]⟩] w fun e w' => e = .returned (.tuple #[.string (if preX s then tail2 s else s), .bool (preX s)]) ∧ w' = w := by
  have := Try.strings_CutPrefix s ⟨#[48, 120]⟩ w
  rwa [trim2] at this

theorem numV_form (b : Bool) (n : Nat) (e : Int) : ∃ D E, numV b n e = .agg #[.bool b, .string D, .int .i64 E, .int .i64 0] := by
  unfold numV
  split
  · exact ⟨_, _, rfl⟩
  · exact ⟨_, _, rfl⟩

set_option maxRecDepth 100000 in
set_option maxHeartbeats 400000 in
theorem Int_yesO (s : ByteArray) (w : World) (h1 : preO s = true) (hok : okS (tail2 s) 8 = true) :
    Calls Try.prog 24 #[.string s] w fun e w' => e = .returned (.tuple #[numV (negB s && decide (numB (tail2 s) 8 ≠ 0)) (numB (tail2 s) 8) 0, .bool true]) ∧ Below w.heap.size w w' := by
  have PL : ∀ w, Calls Try.prog 38 #[.string (tail2 s), .int .i64 8] w fun e w' => e = .returned (.tuple #[.string (decB (numB (tail2 s) 8)), .bool true]) ∧ Below w.heap.size w w' := fun w => Plain_yes (tail2 s) 8 w hok
  have hb := dec_bound (base := 8) hok
  have NB := fun (b : Bool) (w : World) => number_any b (numB (tail2 s) 8) 0 w hb (by decide) (by decide)
  have hne := dec_ne (numB (tail2 s) 8)
  clear hok
  generalize numB (tail2 s) 8 = n at *
  obtain ⟨T, hT⟩ : ∃ T, decB n = T := ⟨_, rfl⟩
  rw [hT] at PL NB hne
  clear hT hb
  have HN : Hid (∀ (b : Bool) (w : World), _) := NB
  clear NB
  have S := fun w => signed_b s w
  generalize decide (n ≠ 0) = d at hne ⊢
  cases hneg : negB s
  · rw [hneg] at S
    rw [Bool.false_and]
    go_enter Try.func24, Try.ntmps24
    go_wp2_with fail
    refine (S _).mono ?_
    rintro e w1 ⟨rfl, hB1⟩
    rw [size1] at hB1
    go_wp2_with fail
    refine (cutO s _).mono ?_
    rintro e w1 ⟨rfl, rfl⟩
    rw [h1]
    go_wp2_with fail
    refine (PL _).mono ?_
    rintro e w2 ⟨rfl, hB2⟩
    go_wp2_with fail
    refine (HN.out _ _).mono ?_
    rintro e w3 ⟨rfl, hB3⟩
    have hBB : Below (w.heap.size + 1) (w.alloc zC) w3 := (hB1.trans (hB2.mono (by have := hB1.size; rw [size1] at this; omega))).trans (hB3.mono (by have := hB1.size; have := hB2.size; rw [size1] at *; omega))
    obtain ⟨r0, r1, r2, r3, f0, f1, f2, f3⟩ := res_cells hBB
    have hw := zC_below hBB
    obtain ⟨D, E, hV⟩ := numV_form false n 0
    rw [hV]
    have HV : Hid _ := hV
    clear hV S PL HN
    go_wp2
    exact bodyPost_ret (v := .tuple #[.agg #[.bool false, .string D, .int .i64 E, .int .i64 0], .bool true]) (put4_results2 Try.results24 rfl rfl r0 r1 r2 r3 _ _ _ _) rfl ⟨by rw [HV.out], put4_below hw (Nat.le_refl _) _ _ _ _⟩
  · rw [hneg] at S
    rw [Bool.true_and]
    go_enter Try.func24, Try.ntmps24
    go_wp2_with fail
    refine (S _).mono ?_
    rintro e w1 ⟨rfl, hB1⟩
    rw [size1] at hB1
    go_wp2_with fail
    refine (cutO s _).mono ?_
    rintro e w1 ⟨rfl, rfl⟩
    rw [h1]
    go_wp2_with fail
    refine (PL _).mono ?_
    rintro e w2 ⟨rfl, hB2⟩
    go_wp2_with fail
    refine (HN.out _ _).mono ?_
    rintro e w3 ⟨rfl, hB3⟩
    have hBB : Below (w.heap.size + 1) (w.alloc zC) w3 := (hB1.trans (hB2.mono (by have := hB1.size; rw [size1] at this; omega))).trans (hB3.mono (by have := hB1.size; have := hB2.size; rw [size1] at *; omega))
    obtain ⟨r0, r1, r2, r3, f0, f1, f2, f3⟩ := res_cells hBB
    have hw := zC_below hBB
    obtain ⟨D, E, hV⟩ := numV_form d n 0
    rw [hV]
    have HV : Hid _ := hV
    clear hV S PL HN
    go_wp2
    exact bodyPost_ret (v := .tuple #[.agg #[.bool d, .string D, .int .i64 E, .int .i64 0], .bool true]) (put4_results2 Try.results24 rfl rfl r0 r1 r2 r3 _ _ _ _) rfl ⟨by rw [HV.out], put4_below hw (Nat.le_refl _) _ _ _ _⟩

set_option maxRecDepth 100000 in
set_option maxHeartbeats 400000 in
theorem Int_yesX (s : ByteArray) (w : World) (h1 : preO s = false) (h2 : preX s = true) (hok : okS (tail2 s) 16 = true) :
    Calls Try.prog 24 #[.string s] w fun e w' => e = .returned (.tuple #[numV (negB s && decide (numB (tail2 s) 16 ≠ 0)) (numB (tail2 s) 16) 0, .bool true]) ∧ Below w.heap.size w w' := by
  have PL : ∀ w, Calls Try.prog 38 #[.string (tail2 s), .int .i64 16] w fun e w' => e = .returned (.tuple #[.string (decB (numB (tail2 s) 16)), .bool true]) ∧ Below w.heap.size w w' := fun w => Plain_yes (tail2 s) 16 w hok
  have hb := dec_bound (base := 16) hok
  have NB := fun (b : Bool) (w : World) => number_any b (numB (tail2 s) 16) 0 w hb (by decide) (by decide)
  have hne := dec_ne (numB (tail2 s) 16)
  clear hok
  generalize numB (tail2 s) 16 = n at *
  obtain ⟨T, hT⟩ : ∃ T, decB n = T := ⟨_, rfl⟩
  rw [hT] at PL NB hne
  clear hT hb
  have HN : Hid (∀ (b : Bool) (w : World), _) := NB
  clear NB
  have S := fun w => signed_b s w
  generalize decide (n ≠ 0) = d at hne ⊢
  cases hneg : negB s
  · rw [hneg] at S
    rw [Bool.false_and]
    go_enter Try.func24, Try.ntmps24
    go_wp2_with fail
    refine (S _).mono ?_
    rintro e w1 ⟨rfl, hB1⟩
    rw [size1] at hB1
    go_wp2_with fail
    refine (cutO s _).mono ?_
    rintro e w1 ⟨rfl, rfl⟩
    rw [h1]
    go_wp2_with fail
    refine (cutX s _).mono ?_
    rintro e w1 ⟨rfl, rfl⟩
    rw [h2]
    go_wp2_with fail
    refine (PL _).mono ?_
    rintro e w2 ⟨rfl, hB2⟩
    go_wp2_with fail
    refine (HN.out _ _).mono ?_
    rintro e w3 ⟨rfl, hB3⟩
    have hBB : Below (w.heap.size + 1) (w.alloc zC) w3 := (hB1.trans (hB2.mono (by have := hB1.size; rw [size1] at this; omega))).trans (hB3.mono (by have := hB1.size; have := hB2.size; rw [size1] at *; omega))
    obtain ⟨r0, r1, r2, r3, f0, f1, f2, f3⟩ := res_cells hBB
    have hw := zC_below hBB
    obtain ⟨D, E, hV⟩ := numV_form false n 0
    rw [hV]
    have HV : Hid _ := hV
    clear hV S PL HN
    go_wp2
    exact bodyPost_ret (v := .tuple #[.agg #[.bool false, .string D, .int .i64 E, .int .i64 0], .bool true]) (put4_results2 Try.results24 rfl rfl r0 r1 r2 r3 _ _ _ _) rfl ⟨by rw [HV.out], put4_below hw (Nat.le_refl _) _ _ _ _⟩
  · rw [hneg] at S
    rw [Bool.true_and]
    go_enter Try.func24, Try.ntmps24
    go_wp2_with fail
    refine (S _).mono ?_
    rintro e w1 ⟨rfl, hB1⟩
    rw [size1] at hB1
    go_wp2_with fail
    refine (cutO s _).mono ?_
    rintro e w1 ⟨rfl, rfl⟩
    rw [h1]
    go_wp2_with fail
    refine (cutX s _).mono ?_
    rintro e w1 ⟨rfl, rfl⟩
    rw [h2]
    go_wp2_with fail
    refine (PL _).mono ?_
    rintro e w2 ⟨rfl, hB2⟩
    go_wp2_with fail
    refine (HN.out _ _).mono ?_
    rintro e w3 ⟨rfl, hB3⟩
    have hBB : Below (w.heap.size + 1) (w.alloc zC) w3 := (hB1.trans (hB2.mono (by have := hB1.size; rw [size1] at this; omega))).trans (hB3.mono (by have := hB1.size; have := hB2.size; rw [size1] at *; omega))
    obtain ⟨r0, r1, r2, r3, f0, f1, f2, f3⟩ := res_cells hBB
    have hw := zC_below hBB
    obtain ⟨D, E, hV⟩ := numV_form d n 0
    rw [hV]
    have HV : Hid _ := hV
    clear hV S PL HN
    go_wp2
    exact bodyPost_ret (v := .tuple #[.agg #[.bool d, .string D, .int .i64 E, .int .i64 0], .bool true]) (put4_results2 Try.results24 rfl rfl r0 r1 r2 r3 _ _ _ _) rfl ⟨by rw [HV.out], put4_below hw (Nat.le_refl _) _ _ _ _⟩

set_option maxRecDepth 100000 in
set_option maxHeartbeats 400000 in
theorem Int_yesN (s : ByteArray) (w : World) (h1 : preO s = false) (h2 : preX s = false) (hok : okS (restB s) 10 = true) :
    Calls Try.prog 24 #[.string s] w fun e w' => e = .returned (.tuple #[numV (negB s && decide (numB (restB s) 10 ≠ 0)) (numB (restB s) 10) 0, .bool true]) ∧ Below w.heap.size w w' := by
  have PL : ∀ w, Calls Try.prog 38 #[.string (restB s), .int .i64 10] w fun e w' => e = .returned (.tuple #[.string (decB (numB (restB s) 10)), .bool true]) ∧ Below w.heap.size w w' := fun w => Plain_yes (restB s) 10 w hok
  have hb := dec_bound (base := 10) hok
  have NB := fun (b : Bool) (w : World) => number_any b (numB (restB s) 10) 0 w hb (by decide) (by decide)
  have hne := dec_ne (numB (restB s) 10)
  clear hok
  generalize numB (restB s) 10 = n at *
  obtain ⟨T, hT⟩ : ∃ T, decB n = T := ⟨_, rfl⟩
  rw [hT] at PL NB hne
  clear hT hb
  have HN : Hid (∀ (b : Bool) (w : World), _) := NB
  clear NB
  have S := fun w => signed_b s w
  generalize decide (n ≠ 0) = d at hne ⊢
  cases hneg : negB s
  · rw [hneg] at S
    rw [Bool.false_and]
    go_enter Try.func24, Try.ntmps24
    go_wp2_with fail
    refine (S _).mono ?_
    rintro e w1 ⟨rfl, hB1⟩
    rw [size1] at hB1
    go_wp2_with fail
    refine (cutO s _).mono ?_
    rintro e w1 ⟨rfl, rfl⟩
    rw [h1]
    go_wp2_with fail
    refine (cutX s _).mono ?_
    rintro e w1 ⟨rfl, rfl⟩
    rw [h2]
    go_wp2_with fail
    refine (PL _).mono ?_
    rintro e w2 ⟨rfl, hB2⟩
    go_wp2_with fail
    refine (HN.out _ _).mono ?_
    rintro e w3 ⟨rfl, hB3⟩
    have hBB : Below (w.heap.size + 1) (w.alloc zC) w3 := (hB1.trans (hB2.mono (by have := hB1.size; rw [size1] at this; omega))).trans (hB3.mono (by have := hB1.size; have := hB2.size; rw [size1] at *; omega))
    obtain ⟨r0, r1, r2, r3, f0, f1, f2, f3⟩ := res_cells hBB
    have hw := zC_below hBB
    obtain ⟨D, E, hV⟩ := numV_form false n 0
    rw [hV]
    have HV : Hid _ := hV
    clear hV S PL HN
    go_wp2
    exact bodyPost_ret (v := .tuple #[.agg #[.bool false, .string D, .int .i64 E, .int .i64 0], .bool true]) (put4_results2 Try.results24 rfl rfl r0 r1 r2 r3 _ _ _ _) rfl ⟨by rw [HV.out], put4_below hw (Nat.le_refl _) _ _ _ _⟩
  · rw [hneg] at S
    rw [Bool.true_and]
    go_enter Try.func24, Try.ntmps24
    go_wp2_with fail
    refine (S _).mono ?_
    rintro e w1 ⟨rfl, hB1⟩
    rw [size1] at hB1
    go_wp2_with fail
    refine (cutO s _).mono ?_
    rintro e w1 ⟨rfl, rfl⟩
    rw [h1]
    go_wp2_with fail
    refine (cutX s _).mono ?_
    rintro e w1 ⟨rfl, rfl⟩
    rw [h2]
    go_wp2_with fail
    refine (PL _).mono ?_
    rintro e w2 ⟨rfl, hB2⟩
    go_wp2_with fail
    refine (HN.out _ _).mono ?_
    rintro e w3 ⟨rfl, hB3⟩
    have hBB : Below (w.heap.size + 1) (w.alloc zC) w3 := (hB1.trans (hB2.mono (by have := hB1.size; rw [size1] at this; omega))).trans (hB3.mono (by have := hB1.size; have := hB2.size; rw [size1] at *; omega))
    obtain ⟨r0, r1, r2, r3, f0, f1, f2, f3⟩ := res_cells hBB
    have hw := zC_below hBB
    obtain ⟨D, E, hV⟩ := numV_form d n 0
    rw [hV]
    have HV : Hid _ := hV
    clear hV S PL HN
    go_wp2
    exact bodyPost_ret (v := .tuple #[.agg #[.bool d, .string D, .int .i64 E, .int .i64 0], .bool true]) (put4_results2 Try.results24 rfl rfl r0 r1 r2 r3 _ _ _ _) rfl ⟨by rw [HV.out], put4_below hw (Nat.le_refl _) _ _ _ _⟩

end Go.Proofs.Ytpffegkckejpiaa
