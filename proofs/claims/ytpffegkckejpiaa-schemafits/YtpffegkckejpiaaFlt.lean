/- decimal.Float. -/
import Derived.Test.YtpffegkckejpiaaPart
import Derived.Laws.Concat
set_option linter.unusedVariables false
set_option linter.unusedSimpArgs false
set_option maxRecDepth 100000
namespace Go.Proofs.Ytpffegkckejpiaa
open Go.RowKit

def isInf (t : ByteArray) : Bool := t.toList == [46, 105, 110, 102] || t.toList == [46, 73, 110, 102] || t.toList == [46, 73, 78, 70]
def isNan (t : ByteArray) : Bool := t.toList == [46, 110, 97, 110] || t.toList == [46, 78, 97, 78] || t.toList == [46, 78, 65, 78]
/-- What stands ahead of e, and the exponent, where e stands at K. -/
def aheadK (t : ByteArray) (K : Int) : Option (ByteArray × Int) :=
  if K < 0 then some (t, 0) else (expP (t.extract (K.toNat + 1) t.size)).map fun x => (t.extract 0 K.toNat, x)
def fltA (a : ByteArray) (x : Int) : Option (Nat × Int) :=
  if okS (whD a ++ ptD a) 10 then some (numB (whD a ++ ptD a) 10, x - (ptD a).size) else none
def fltK (t : ByteArray) (K : Int) : Option (Nat × Int) := (aheadK t K).bind fun p => fltA p.1 p.2
def fltV (b : Bool) : Option (Nat × Int) → Value
  | none => .tuple #[zV, .bool false]
  | some (n, e) => .tuple #[numV b n e, .bool true]
def floatV (s : ByteArray) (K : Int) : Value :=
  if isInf (restB s) then .tuple #[.agg #[.bool (negB s), .string ⟨#[]⟩, .int .i64 0, .int .i64 1], .bool true]
  else if isNan s then .tuple #[.agg #[.bool false, .string ⟨#[]⟩, .int .i64 0, .int .i64 2], .bool true]
  else fltV (negB s) (fltK (restB s) K)

theorem parts_size (a : ByteArray) : (whD a).size + (ptD a).size ≤ a.size := by
  unfold whD ptD
  have hr := indexByte_range 46 a.data.toList
  rw [← Lib.size_eq] at hr
  unfold dotJ
  rcases hr with e | ⟨e1, e2⟩
  · rw [e, if_pos (by decide), if_pos (by decide)]
    show a.size + 0 ≤ a.size
    omega
  · rw [if_neg (by omega), if_neg (by omega)]
    rw [Lib.size_eq, Lib.size_eq (a.extract _ a.size), Lib.extract_data, Lib.extract_data]
    simp only [List.length_take, List.length_drop, ← Lib.size_eq]
    omega
theorem rest_size (s : ByteArray) : (restB s).size ≤ s.size := by
  unfold restB
  split
  · rw [Lib.size_eq, Lib.extract_data]; simp
  · exact Nat.le_refl _
theorem inf_cases {t : ByteArray} (h : isInf t = true) : (t.toList == [46, 105, 110, 102]) = true ∨ ((t.toList == [46, 105, 110, 102]) = false ∧ (t.toList == [46, 73, 110, 102]) = true) ∨ ((t.toList == [46, 105, 110, 102]) = false ∧ (t.toList == [46, 73, 110, 102]) = false ∧ (t.toList == [46, 73, 78, 70]) = true) := by
  unfold isInf at h
  cases a : (t.toList == [46, 105, 110, 102]) <;> cases b : (t.toList == [46, 73, 110, 102]) <;> cases c : (t.toList == [46, 73, 78, 70]) <;> simp_all
theorem inf_none {t : ByteArray} (h : isInf t = false) : (t.toList == [46, 105, 110, 102]) = false ∧ (t.toList == [46, 73, 110, 102]) = false ∧ (t.toList == [46, 73, 78, 70]) = false := by
  unfold isInf at h
  simpa [and_assoc] using h
theorem nan_cases {t : ByteArray} (h : isNan t = true) : (t.toList == [46, 110, 97, 110]) = true ∨ ((t.toList == [46, 110, 97, 110]) = false ∧ (t.toList == [46, 78, 97, 78]) = true) ∨ ((t.toList == [46, 110, 97, 110]) = false ∧ (t.toList == [46, 78, 97, 78]) = false ∧ (t.toList == [46, 78, 65, 78]) = true) := by
  unfold isNan at h
  cases a : (t.toList == [46, 110, 97, 110]) <;> cases b : (t.toList == [46, 78, 97, 78]) <;> cases c : (t.toList == [46, 78, 65, 78]) <;> simp_all
theorem nan_none {t : ByteArray} (h : isNan t = false) : (t.toList == [46, 110, 97, 110]) = false ∧ (t.toList == [46, 78, 97, 78]) = false ∧ (t.toList == [46, 78, 65, 78]) = false := by
  unfold isNan at h
  simpa [and_assoc] using h

set_option maxRecDepth 100000 in
set_option maxHeartbeats 400000 in
theorem Float_inf (s : ByteArray) (w : World) (h : isInf (restB s) = true) :
    Calls Try.prog 40 #[.string s] w fun e w' => e = .returned (.tuple #[.agg #[.bool (negB s), .string ⟨#[]⟩, .int .i64 0, .int .i64 1], .bool true]) ∧ Below w.heap.size w w' := by
  have S := fun w => signed_b s w
  have hc := inf_cases h
  clear h
  generalize restB s = t at S hc
  generalize negB s = ng at S ⊢
  rcases hc with h1 | ⟨h1, h2⟩ | ⟨h1, h2, h3⟩
  all_goals
    go_enter Try.func40, Try.ntmps40
    go_wp2_with fail
    refine (S _).mono ?_
    rintro e w1 ⟨rfl, hB1⟩
    rw [size1] at hB1
    obtain ⟨r0, r1, r2, r3, f0, f1, f2, f3⟩ := res_cells hB1
    have hw := zC_below hB1
    go_wp2
    exact bodyPost_ret (v := .tuple #[.agg #[.bool ng, .string ⟨#[]⟩, .int .i64 0, .int .i64 1], .bool true]) (put4_results2 Try.results40 rfl rfl r0 r1 r2 r3 _ _ _ _) rfl ⟨rfl, put4_below hw (Nat.le_refl _) _ _ _ _⟩

set_option maxRecDepth 100000 in
set_option maxHeartbeats 400000 in
theorem Float_nan (s : ByteArray) (w : World) (h0 : isInf (restB s) = false) (h : isNan s = true) :
    Calls Try.prog 40 #[.string s] w fun e w' => e = .returned (.tuple #[.agg #[.bool false, .string ⟨#[]⟩, .int .i64 0, .int .i64 2], .bool true]) ∧ Below w.heap.size w w' := by
  have S := fun w => signed_b s w
  obtain ⟨i1, i2, i3⟩ := inf_none h0
  have hc := nan_cases h
  clear h h0
  generalize restB s = t at S i1 i2 i3
  generalize negB s = ng at S ⊢
  rcases hc with h1 | ⟨h1, h2⟩ | ⟨h1, h2, h3⟩
  all_goals
    go_enter Try.func40, Try.ntmps40
    go_wp2_with fail
    refine (S _).mono ?_
    rintro e w1 ⟨rfl, hB1⟩
    rw [size1] at hB1
    obtain ⟨r0, r1, r2, r3, f0, f1, f2, f3⟩ := res_cells hB1
    have hw := zC_below hB1
    go_wp2
    exact bodyPost_ret (v := .tuple #[.agg #[.bool false, .string ⟨#[]⟩, .int .i64 0, .int .i64 2], .bool true]) (put4_results2 Try.results40 rfl rfl r0 r1 r2 r3 _ _ _ _) rfl ⟨rfl, put4_below hw (Nat.le_refl _) _ _ _ _⟩

theorem partV_none {t : ByteArray} {K : Int} (h : aheadK t K = none) : partV t K = .tuple #[.string ⟨#[]⟩, .int .i64 0, .bool false] := by
  unfold aheadK at h
  unfold partV
  split at h
  · cases h
  · rename_i hk
    rw [if_neg hk]
    cases e : expP (t.extract (K.toNat + 1) t.size) with
    | none => rfl
    | some x => rw [e] at h; cases h
theorem partV_some {t a : ByteArray} {K x : Int} (h : aheadK t K = some (a, x)) : partV t K = .tuple #[.string a, .int .i64 x, .bool true] ∧ a.size ≤ t.size ∧ -999999999 ≤ x ∧ x ≤ 999999999 := by
  unfold aheadK at h
  unfold partV
  split at h
  · rename_i hk
    cases h
    rw [if_pos hk]
    exact ⟨rfl, Nat.le_refl _, by omega, by omega⟩
  · rename_i hk
    rw [if_neg hk]
    cases e : expP (t.extract (K.toNat + 1) t.size) with
    | none => rw [e] at h; cases h
    | some x' =>
      rw [e] at h
      have := expP_range e
      cases h
      refine ⟨rfl, ?_, this⟩
      rw [Lib.size_eq, Lib.extract_data]
      simp only [List.length_take, List.length_drop, ← Lib.size_eq]
      omega

set_option maxRecDepth 100000 in
set_option maxHeartbeats 400000 in
theorem Float_rest (s : ByteArray) (w : World) (Q : Int → Prop) (hs : s.size ≤ 100000) (hQ : ∀ K, Q K → K = -1 ∨ (0 ≤ K ∧ K < (restB s).size))
    (IX : ∀ w, Calls Try.prog 71 #[.string (restB s), .string ⟨#[101, 69]⟩] w fun e w' => ∃ K, Q K ∧ e = .returned (.int .i64 K) ∧ Below w.heap.size w w')
    (h0 : isInf (restB s) = false) (h1 : isNan s = false) :
    Calls Try.prog 40 #[.string s] w fun e w' => ∃ K, Q K ∧ e = .returned (fltV (negB s) (fltK (restB s) K)) ∧ Below w.heap.size w w' := by
  have S := fun w => signed_b s w
  have hts : (restB s).size ≤ 100000 := Nat.le_trans (rest_size s) hs
  have PT := fun w => parted_any (restB s) w Q hts hQ IX
  obtain ⟨i1, i2, i3⟩ := inf_none h0
  obtain ⟨n1, n2, n3⟩ := nan_none h1
  clear h0 h1 hQ IX hs
  generalize restB s = t at *
  generalize negB s = ng at *
  go_enter Try.func40, Try.ntmps40
  go_wp2_with fail
  refine (S _).mono ?_
  rintro e w1 ⟨rfl, hB1⟩
  rw [size1] at hB1
  go_wp2_with fail
  refine (PT _).mono ?_
  rintro e w2 ⟨K, hK, rfl, hB2⟩
  have HK : Hid (Q K) := hK
  have hBB : Below (w.heap.size + 1) (w.alloc zC) w2 := hB1.trans (hB2.mono (by have := hB1.size; rw [size1] at this; omega))
  clear hK PT S hB1 hB2
  cases ha : aheadK t K with
  | none =>
    rw [partV_none ha]
    have HA : Hid (aheadK t K = none) := ha
    obtain ⟨r0, r1, r2, r3, f0, f1, f2, f3⟩ := res_cells hBB
    have hw := zC_below hBB
    clear ha
    go_wp2
    exact bodyPost_ret (v := .tuple #[zV, .bool false]) (put4_results2 Try.results40 rfl rfl r0 r1 r2 r3 _ _ _ _) rfl ⟨K, HK.out, by unfold fltK; rw [HA.out]; rfl, put4_below hw (Nat.le_refl _) _ _ _ _⟩
  | some ax =>
    obtain ⟨a, x⟩ := ax
    obtain ⟨e1, e2, e3, e4⟩ := partV_some ha
    rw [e1]
    have HA : Hid (fltK t K = fltA a x) := by show _ = _; unfold fltK; rw [ha]; rfl
    have hps := parts_size a
    have CT := fun w => cut_any a w (by omega)
    have hpt : (ptD a).size ≤ 100000 := by omega
    have hsum : (whD a).size + (ptD a).size ≤ 100000 := by omega
    have HF : Hid (fltA a x = if okS (whD a ++ ptD a) 10 then some (numB (whD a ++ ptD a) 10, x - (ptD a).size) else none) := rfl
    clear ha e1 hps e2 hts
    generalize hwd : whD a = wh at *
    generalize hpd : ptD a = pt at *
    clear hwd hpd
    go_wp2_with fail
    refine (CT _).mono ?_
    rintro e w3 ⟨b, rfl, hB3⟩
    have hB : Below (w.heap.size + 1) (w.alloc zC) w3 := hBB.trans (hB3.mono (by have := hBB.size; rw [size1] at this; omega))
    clear hBB hB3 CT
    have A := run_string_add_sum (P := Try.prog) w3 wh pt (by omega)
    obtain ⟨c, hc⟩ : ∃ c, wh ++ pt = c := ⟨_, rfl⟩
    rw [hc] at A HF
    clear hc
    cases hok : okS c 10
    · rw [hok] at HF
      have PL := fun w => Plain_no c 10 w hok
      clear hok
      go_wp2_with fail
      refine (PL _).mono ?_
      rintro e w4 ⟨rfl, hB4⟩
      have hBC : Below (w.heap.size + 1) (w.alloc zC) w4 := hB.trans (hB4.mono (by have := hB.size; rw [size1] at this; omega))
      obtain ⟨r0, r1, r2, r3, f0, f1, f2, f3⟩ := res_cells hBC
      have hw := zC_below hBC
      clear PL A
      go_wp2
      exact bodyPost_ret (v := .tuple #[zV, .bool false]) (put4_results2 Try.results40 rfl rfl r0 r1 r2 r3 _ _ _ _) rfl ⟨K, HK.out, by rw [HA.out, HF.out]; rfl, put4_below hw (Nat.le_refl _) _ _ _ _⟩
    · rw [hok] at HF
      have PL := fun w => Plain_ten c w hok
      have hb := dec_bound (base := 10) hok
      have NB := fun (w : World) => number_any ng (numB c 10) (x - pt.size) w hb (by omega) (by omega)
      clear hok hb
      generalize numB c 10 = n at *
      generalize decB n = T at PL NB
      have hpi : (pt.size : Int) ≤ 100000 := by omega
      go_wp2_with fail
      refine (PL _).mono ?_
      rintro e w4 ⟨rfl, hB4⟩
      have hBC : Below (w.heap.size + 1) (w.alloc zC) w4 := hB.trans (hB4.mono (by have := hB.size; rw [size1] at this; omega))
      clear PL A hB hB4
      go_wp2_with fail
      refine (NB _).mono ?_
      rintro e w5 ⟨rfl, hB5⟩
      have hBD : Below (w.heap.size + 1) (w.alloc zC) w5 := hBC.trans (hB5.mono (by have := hBC.size; rw [size1] at this; omega))
      obtain ⟨r0, r1, r2, r3, f0, f1, f2, f3⟩ := res_cells hBD
      have hw := zC_below hBD
      obtain ⟨D, E, hV⟩ := numV_form ng n (x - pt.size)
      rw [hV]
      have HV : Hid _ := hV
      clear hV NB hBC hB5
      go_wp2
      exact bodyPost_ret (v := .tuple #[.agg #[.bool ng, .string D, .int .i64 E, .int .i64 0], .bool true]) (put4_results2 Try.results40 rfl rfl r0 r1 r2 r3 _ _ _ _) rfl ⟨K, HK.out, by rw [HA.out, HF.out]; show _ = Ending.returned (.tuple #[numV ng n (x - pt.size), .bool true]); rw [HV.out], put4_below hw (Nat.le_refl _) _ _ _ _⟩

theorem Float_of (s : ByteArray) (w : World) (Q : Int → Prop) (hs : s.size ≤ 100000) (K0 : Int) (hK0 : Q K0) (hQ : ∀ K, Q K → K = -1 ∨ (0 ≤ K ∧ K < (restB s).size))
    (IX : ∀ w, Calls Try.prog 71 #[.string (restB s), .string ⟨#[101, 69]⟩] w fun e w' => ∃ K, Q K ∧ e = .returned (.int .i64 K) ∧ Below w.heap.size w w') :
    Calls Try.prog 40 #[.string s] w fun e w' => ∃ K, Q K ∧ e = .returned (floatV s K) ∧ Below w.heap.size w w' := by
  unfold floatV
  cases h0 : isInf (restB s)
  · cases h1 : isNan s
    · exact Float_rest s w Q hs hQ IX h0 h1
    · exact (Float_nan s w h0 h1).mono fun e w' ⟨a, b⟩ => ⟨K0, hK0, a, b⟩
  · exact (Float_inf s w h0).mono fun e w' ⟨a, b⟩ => ⟨K0, hK0, a, b⟩
end Go.Proofs.Ytpffegkckejpiaa
