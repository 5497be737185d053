/- The document's own Float: what is none by its length, and digits alone. -/
import Derived.Test.YtpffegkckejpiaaRfE
set_option linter.unusedVariables false
set_option linter.unusedSimpArgs false
set_option maxRecDepth 100000
namespace Go.Proofs.Ytpffegkckejpiaa
open Go.RowKit

set_option maxRecDepth 100000 in
set_option maxHeartbeats 400000 in
theorem rF_A1_b (s t : ByteArray) (ng : Bool) (w : World) (S : ∀ w, Calls Try.prog 41 #[.string s] w fun e w' => e = .returned (.tuple #[.string t, .bool ng]) ∧ Below w.heap.size w w') (ht : t.size ≤ 100000)
    (i1 : (t.toList == [46, 105, 110, 102]) = false) (i2 : (t.toList == [46, 73, 110, 102]) = false) (i3 : (t.toList == [46, 73, 78, 70]) = false) (n1 : (s.toList == [46, 110, 97, 110]) = false) (n2 : (s.toList == [46, 78, 97, 78]) = false) (n3 : (s.toList == [46, 78, 65, 78]) = false)
    (wh : ByteArray) (k : Nat) (R1 : ∀ w, Calls Try.prog 44 #[.string t, .int .i64 0] w fun e w' => e = .returned (.tuple #[.string wh, .int .i64 k]) ∧ w' = w) (hk : ¬ (k : Int) < t.size) (hkk : (k : Int) = t.size) (b1 : wh.toList.isEmpty = true) (hz1 : wh.size ≤ 100000) :
    Calls Try.prog 27 #[.string s] w fun e w' => e = .returned (.tuple #[zV, .bool false]) ∧ Below w.heap.size w w' := by
  go_enter Try.func27, Try.ntmps27
  go_wp2_with fail
  refine (S _).mono ?_
  rintro e w1 ⟨rfl, hB1⟩
  rw [size1] at hB1
  clear S
  go_wp2_with fail
  refine (R1 _).mono ?_
  rintro e w1 ⟨rfl, rfl⟩
  obtain ⟨r0, r1, r2, r3, f0, f1, f2, f3⟩ := res_cells hB1
  have hw := zC_below hB1
  go_wp2
  exact bodyPost_ret (v := .tuple #[zV, .bool false]) (put4_results2 Try.results27 rfl rfl r0 r1 r2 r3 _ _ _ _) rfl ⟨rfl, put4_below hw (Nat.le_refl _) _ _ _ _⟩

set_option maxRecDepth 100000 in
set_option maxHeartbeats 400000 in
theorem rF_A1_l1 (s t : ByteArray) (ng : Bool) (w : World) (S : ∀ w, Calls Try.prog 41 #[.string s] w fun e w' => e = .returned (.tuple #[.string t, .bool ng]) ∧ Below w.heap.size w w') (ht : t.size ≤ 100000)
    (i1 : (t.toList == [46, 105, 110, 102]) = false) (i2 : (t.toList == [46, 73, 110, 102]) = false) (i3 : (t.toList == [46, 73, 78, 70]) = false) (n1 : (s.toList == [46, 110, 97, 110]) = false) (n2 : (s.toList == [46, 78, 97, 78]) = false) (n3 : (s.toList == [46, 78, 65, 78]) = false)
    (wh : ByteArray) (k : Nat) (R1 : ∀ w, Calls Try.prog 44 #[.string t, .int .i64 0] w fun e w' => e = .returned (.tuple #[.string wh, .int .i64 k]) ∧ w' = w) (hk : ¬ (k : Int) < t.size) (hkk : (k : Int) = t.size) (b1 : wh.toList.isEmpty = false) (hl : (5000 : Int) < (wh.size : Int)) (hz1 : wh.size ≤ 100000) :
    Calls Try.prog 27 #[.string s] w fun e w' => e = .returned (.tuple #[zV, .bool false]) ∧ Below w.heap.size w w' := by
  go_enter Try.func27, Try.ntmps27
  go_wp2_with fail
  refine (S _).mono ?_
  rintro e w1 ⟨rfl, hB1⟩
  rw [size1] at hB1
  clear S
  go_wp2_with fail
  refine (R1 _).mono ?_
  rintro e w1 ⟨rfl, rfl⟩
  obtain ⟨r0, r1, r2, r3, f0, f1, f2, f3⟩ := res_cells hB1
  have hw := zC_below hB1
  go_wp2
  exact bodyPost_ret (v := .tuple #[zV, .bool false]) (put4_results2 Try.results27 rfl rfl r0 r1 r2 r3 _ _ _ _) rfl ⟨rfl, put4_below hw (Nat.le_refl _) _ _ _ _⟩

set_option maxRecDepth 100000 in
set_option maxHeartbeats 400000 in
theorem rF_A2_b (s t : ByteArray) (ng : Bool) (w : World) (S : ∀ w, Calls Try.prog 41 #[.string s] w fun e w' => e = .returned (.tuple #[.string t, .bool ng]) ∧ Below w.heap.size w w') (ht : t.size ≤ 100000)
    (i1 : (t.toList == [46, 105, 110, 102]) = false) (i2 : (t.toList == [46, 73, 110, 102]) = false) (i3 : (t.toList == [46, 73, 78, 70]) = false) (n1 : (s.toList == [46, 110, 97, 110]) = false) (n2 : (s.toList == [46, 78, 97, 78]) = false) (n3 : (s.toList == [46, 78, 65, 78]) = false)
    (wh : ByteArray) (k : Nat) (R1 : ∀ w, Calls Try.prog 44 #[.string t, .int .i64 0] w fun e w' => e = .returned (.tuple #[.string wh, .int .i64 k]) ∧ w' = w) (hk : (k : Int) < t.size) (hc : ((t[k]'(by omega)).toNat : Int) ≠ 46) (b1 : wh.toList.isEmpty = true) (hz1 : wh.size ≤ 100000) :
    Calls Try.prog 27 #[.string s] w fun e w' => e = .returned (.tuple #[zV, .bool false]) ∧ Below w.heap.size w w' := by
  have hc' : (((t[k]'(by omega)).toNat : Int) == 46) = false := beq_false_of_ne hc
  clear hc
  go_enter Try.func27, Try.ntmps27
  go_wp2_with fail
  refine (S _).mono ?_
  rintro e w1 ⟨rfl, hB1⟩
  rw [size1] at hB1
  clear S
  go_wp2_with fail
  refine (R1 _).mono ?_
  rintro e w1 ⟨rfl, rfl⟩
  obtain ⟨r0, r1, r2, r3, f0, f1, f2, f3⟩ := res_cells hB1
  have hw := zC_below hB1
  go_wp2
  exact bodyPost_ret (v := .tuple #[zV, .bool false]) (put4_results2 Try.results27 rfl rfl r0 r1 r2 r3 _ _ _ _) rfl ⟨rfl, put4_below hw (Nat.le_refl _) _ _ _ _⟩

set_option maxRecDepth 100000 in
set_option maxHeartbeats 400000 in
theorem rF_A2_l1 (s t : ByteArray) (ng : Bool) (w : World) (S : ∀ w, Calls Try.prog 41 #[.string s] w fun e w' => e = .returned (.tuple #[.string t, .bool ng]) ∧ Below w.heap.size w w') (ht : t.size ≤ 100000)
    (i1 : (t.toList == [46, 105, 110, 102]) = false) (i2 : (t.toList == [46, 73, 110, 102]) = false) (i3 : (t.toList == [46, 73, 78, 70]) = false) (n1 : (s.toList == [46, 110, 97, 110]) = false) (n2 : (s.toList == [46, 78, 97, 78]) = false) (n3 : (s.toList == [46, 78, 65, 78]) = false)
    (wh : ByteArray) (k : Nat) (R1 : ∀ w, Calls Try.prog 44 #[.string t, .int .i64 0] w fun e w' => e = .returned (.tuple #[.string wh, .int .i64 k]) ∧ w' = w) (hk : (k : Int) < t.size) (hc : ((t[k]'(by omega)).toNat : Int) ≠ 46) (b1 : wh.toList.isEmpty = false) (hl : (5000 : Int) < (wh.size : Int)) (hz1 : wh.size ≤ 100000) :
    Calls Try.prog 27 #[.string s] w fun e w' => e = .returned (.tuple #[zV, .bool false]) ∧ Below w.heap.size w w' := by
  have hc' : (((t[k]'(by omega)).toNat : Int) == 46) = false := beq_false_of_ne hc
  clear hc
  go_enter Try.func27, Try.ntmps27
  go_wp2_with fail
  refine (S _).mono ?_
  rintro e w1 ⟨rfl, hB1⟩
  rw [size1] at hB1
  clear S
  go_wp2_with fail
  refine (R1 _).mono ?_
  rintro e w1 ⟨rfl, rfl⟩
  obtain ⟨r0, r1, r2, r3, f0, f1, f2, f3⟩ := res_cells hB1
  have hw := zC_below hB1
  go_wp2
  exact bodyPost_ret (v := .tuple #[zV, .bool false]) (put4_results2 Try.results27 rfl rfl r0 r1 r2 r3 _ _ _ _) rfl ⟨rfl, put4_below hw (Nat.le_refl _) _ _ _ _⟩

set_option maxRecDepth 100000 in
set_option maxHeartbeats 400000 in
theorem rF_B_b (s t : ByteArray) (ng : Bool) (w : World) (S : ∀ w, Calls Try.prog 41 #[.string s] w fun e w' => e = .returned (.tuple #[.string t, .bool ng]) ∧ Below w.heap.size w w') (ht : t.size ≤ 100000)
    (i1 : (t.toList == [46, 105, 110, 102]) = false) (i2 : (t.toList == [46, 73, 110, 102]) = false) (i3 : (t.toList == [46, 73, 78, 70]) = false) (n1 : (s.toList == [46, 110, 97, 110]) = false) (n2 : (s.toList == [46, 78, 97, 78]) = false) (n3 : (s.toList == [46, 78, 65, 78]) = false)
    (wh : ByteArray) (k : Nat) (R1 : ∀ w, Calls Try.prog 44 #[.string t, .int .i64 0] w fun e w' => e = .returned (.tuple #[.string wh, .int .i64 k]) ∧ w' = w) (hk : (k : Int) < t.size) (hc : ((t[k]'(by omega)).toNat : Int) = 46) (pt : ByteArray) (i : Nat) (R2 : ∀ w, Calls Try.prog 44 #[.string t, .int .i64 ((k : Int) + 1)] w fun e w' => e = .returned (.tuple #[.string pt, .int .i64 i]) ∧ w' = w) (b1 : wh.toList.isEmpty = true) (b2 : pt.toList.isEmpty = true) (hz1 : wh.size ≤ 100000) (hz2 : pt.size ≤ 100000) :
    Calls Try.prog 27 #[.string s] w fun e w' => e = .returned (.tuple #[zV, .bool false]) ∧ Below w.heap.size w w' := by
  have hkb : (k : Int) ≤ 100000 := by omega
  go_enter Try.func27, Try.ntmps27
  go_wp2_with fail
  refine (S _).mono ?_
  rintro e w1 ⟨rfl, hB1⟩
  rw [size1] at hB1
  clear S
  go_wp2_with fail
  refine (R1 _).mono ?_
  rintro e w1 ⟨rfl, rfl⟩
  go_wp2_with fail
  refine (R2 _).mono ?_
  rintro e w1 ⟨rfl, rfl⟩
  obtain ⟨r0, r1, r2, r3, f0, f1, f2, f3⟩ := res_cells hB1
  have hw := zC_below hB1
  go_wp2
  exact bodyPost_ret (v := .tuple #[zV, .bool false]) (put4_results2 Try.results27 rfl rfl r0 r1 r2 r3 _ _ _ _) rfl ⟨rfl, put4_below hw (Nat.le_refl _) _ _ _ _⟩

set_option maxRecDepth 100000 in
set_option maxHeartbeats 400000 in
theorem rF_B_l1 (s t : ByteArray) (ng : Bool) (w : World) (S : ∀ w, Calls Try.prog 41 #[.string s] w fun e w' => e = .returned (.tuple #[.string t, .bool ng]) ∧ Below w.heap.size w w') (ht : t.size ≤ 100000)
    (i1 : (t.toList == [46, 105, 110, 102]) = false) (i2 : (t.toList == [46, 73, 110, 102]) = false) (i3 : (t.toList == [46, 73, 78, 70]) = false) (n1 : (s.toList == [46, 110, 97, 110]) = false) (n2 : (s.toList == [46, 78, 97, 78]) = false) (n3 : (s.toList == [46, 78, 65, 78]) = false)
    (wh : ByteArray) (k : Nat) (R1 : ∀ w, Calls Try.prog 44 #[.string t, .int .i64 0] w fun e w' => e = .returned (.tuple #[.string wh, .int .i64 k]) ∧ w' = w) (hk : (k : Int) < t.size) (hc : ((t[k]'(by omega)).toNat : Int) = 46) (pt : ByteArray) (i : Nat) (R2 : ∀ w, Calls Try.prog 44 #[.string t, .int .i64 ((k : Int) + 1)] w fun e w' => e = .returned (.tuple #[.string pt, .int .i64 i]) ∧ w' = w) (b1 : wh.toList.isEmpty = false) (hl : (5000 : Int) < (wh.size : Int) + pt.size) (hz1 : wh.size ≤ 100000) (hz2 : pt.size ≤ 100000) :
    Calls Try.prog 27 #[.string s] w fun e w' => e = .returned (.tuple #[zV, .bool false]) ∧ Below w.heap.size w w' := by
  have hkb : (k : Int) ≤ 100000 := by omega
  go_enter Try.func27, Try.ntmps27
  go_wp2_with fail
  refine (S _).mono ?_
  rintro e w1 ⟨rfl, hB1⟩
  rw [size1] at hB1
  clear S
  go_wp2_with fail
  refine (R1 _).mono ?_
  rintro e w1 ⟨rfl, rfl⟩
  go_wp2_with fail
  refine (R2 _).mono ?_
  rintro e w1 ⟨rfl, rfl⟩
  obtain ⟨r0, r1, r2, r3, f0, f1, f2, f3⟩ := res_cells hB1
  have hw := zC_below hB1
  go_wp2
  exact bodyPost_ret (v := .tuple #[zV, .bool false]) (put4_results2 Try.results27 rfl rfl r0 r1 r2 r3 _ _ _ _) rfl ⟨rfl, put4_below hw (Nat.le_refl _) _ _ _ _⟩

set_option maxRecDepth 100000 in
set_option maxHeartbeats 400000 in
theorem rF_B_l2 (s t : ByteArray) (ng : Bool) (w : World) (S : ∀ w, Calls Try.prog 41 #[.string s] w fun e w' => e = .returned (.tuple #[.string t, .bool ng]) ∧ Below w.heap.size w w') (ht : t.size ≤ 100000)
    (i1 : (t.toList == [46, 105, 110, 102]) = false) (i2 : (t.toList == [46, 73, 110, 102]) = false) (i3 : (t.toList == [46, 73, 78, 70]) = false) (n1 : (s.toList == [46, 110, 97, 110]) = false) (n2 : (s.toList == [46, 78, 97, 78]) = false) (n3 : (s.toList == [46, 78, 65, 78]) = false)
    (wh : ByteArray) (k : Nat) (R1 : ∀ w, Calls Try.prog 44 #[.string t, .int .i64 0] w fun e w' => e = .returned (.tuple #[.string wh, .int .i64 k]) ∧ w' = w) (hk : (k : Int) < t.size) (hc : ((t[k]'(by omega)).toNat : Int) = 46) (pt : ByteArray) (i : Nat) (R2 : ∀ w, Calls Try.prog 44 #[.string t, .int .i64 ((k : Int) + 1)] w fun e w' => e = .returned (.tuple #[.string pt, .int .i64 i]) ∧ w' = w) (b1 : wh.toList.isEmpty = true) (b2 : pt.toList.isEmpty = false) (hl : (5000 : Int) < (wh.size : Int) + pt.size) (hz1 : wh.size ≤ 100000) (hz2 : pt.size ≤ 100000) :
    Calls Try.prog 27 #[.string s] w fun e w' => e = .returned (.tuple #[zV, .bool false]) ∧ Below w.heap.size w w' := by
  have hkb : (k : Int) ≤ 100000 := by omega
  go_enter Try.func27, Try.ntmps27
  go_wp2_with fail
  refine (S _).mono ?_
  rintro e w1 ⟨rfl, hB1⟩
  rw [size1] at hB1
  clear S
  go_wp2_with fail
  refine (R1 _).mono ?_
  rintro e w1 ⟨rfl, rfl⟩
  go_wp2_with fail
  refine (R2 _).mono ?_
  rintro e w1 ⟨rfl, rfl⟩
  obtain ⟨r0, r1, r2, r3, f0, f1, f2, f3⟩ := res_cells hB1
  have hw := zC_below hB1
  go_wp2
  exact bodyPost_ret (v := .tuple #[zV, .bool false]) (put4_results2 Try.results27 rfl rfl r0 r1 r2 r3 _ _ _ _) rfl ⟨rfl, put4_below hw (Nat.le_refl _) _ _ _ _⟩

set_option maxRecDepth 100000 in
set_option maxHeartbeats 400000 in
theorem rF_A1_o1_end (s t : ByteArray) (ng : Bool) (w : World) (S : ∀ w, Calls Try.prog 41 #[.string s] w fun e w' => e = .returned (.tuple #[.string t, .bool ng]) ∧ Below w.heap.size w w') (ht : t.size ≤ 100000)
    (i1 : (t.toList == [46, 105, 110, 102]) = false) (i2 : (t.toList == [46, 73, 110, 102]) = false) (i3 : (t.toList == [46, 73, 78, 70]) = false) (n1 : (s.toList == [46, 110, 97, 110]) = false) (n2 : (s.toList == [46, 78, 97, 78]) = false) (n3 : (s.toList == [46, 78, 65, 78]) = false)
    (wh : ByteArray) (k : Nat) (R1 : ∀ w, Calls Try.prog 44 #[.string t, .int .i64 0] w fun e w' => e = .returned (.tuple #[.string wh, .int .i64 k]) ∧ w' = w) (hk : ¬ (k : Int) < t.size) (hkk : (k : Int) = t.size) (b1 : wh.toList.isEmpty = false) (hl : ¬ (5000 : Int) < (wh.size : Int)) (hz1 : wh.size ≤ 100000) (hda : (wh ++ ⟨#[]⟩).data.toList.all isD = true) (hd0 : 0 < (wh ++ ⟨#[]⟩).size) (hds : (wh ++ ⟨#[]⟩).size ≤ 20000) :
    Calls Try.prog 27 #[.string s] w fun e w' => e = .returned (.tuple #[numV ng (valD (wh ++ ⟨#[]⟩).data.toList) 0, .bool true]) ∧ Below w.heap.size w w' := by
  have TD := fun w => tidy_any ng (wh ++ ⟨#[]⟩) 0 w hda hd0 hds (by omega) (by omega)
  have A := fun w => run_string_add_sum (P := Try.prog) w wh ⟨#[]⟩ (by show wh.size + 0 ≤ _; omega)
  obtain ⟨D, E, hV⟩ := numV_form ng (valD (wh ++ ⟨#[]⟩).data.toList) 0
  rw [hV] at TD ⊢
  clear hV hda hd0 hds
  generalize (wh ++ ⟨#[]⟩) = cc at A TD
  go_enter Try.func27, Try.ntmps27
  go_wp2_with fail
  refine (S _).mono ?_
  rintro e w1 ⟨rfl, hB1⟩
  rw [size1] at hB1
  clear S
  go_wp2_with fail
  refine (R1 _).mono ?_
  rintro e w1 ⟨rfl, rfl⟩
  go_wp2_with fail
  refine (TD _).mono ?_
  rintro e w3 ⟨rfl, hB3⟩
  have hBB : Below (w.heap.size + 1) (w.alloc zC) w3 := hB1.trans (hB3.mono (by have := hB1.size; rw [size1] at this; omega))
  obtain ⟨r0, r1, r2, r3, f0, f1, f2, f3⟩ := res_cells hBB
  have hw := zC_below hBB
  clear TD A
  go_wp2
  exact bodyPost_ret (v := .tuple #[.agg #[.bool ng, .string D, .int .i64 E, .int .i64 0], .bool true]) (put4_results2 Try.results27 rfl rfl r0 r1 r2 r3 _ _ _ _) rfl ⟨rfl, put4_below hw (Nat.le_refl _) _ _ _ _⟩

set_option maxRecDepth 100000 in
set_option maxHeartbeats 400000 in
theorem rF_B_o1_end (s t : ByteArray) (ng : Bool) (w : World) (S : ∀ w, Calls Try.prog 41 #[.string s] w fun e w' => e = .returned (.tuple #[.string t, .bool ng]) ∧ Below w.heap.size w w') (ht : t.size ≤ 100000)
    (i1 : (t.toList == [46, 105, 110, 102]) = false) (i2 : (t.toList == [46, 73, 110, 102]) = false) (i3 : (t.toList == [46, 73, 78, 70]) = false) (n1 : (s.toList == [46, 110, 97, 110]) = false) (n2 : (s.toList == [46, 78, 97, 78]) = false) (n3 : (s.toList == [46, 78, 65, 78]) = false)
    (wh : ByteArray) (k : Nat) (R1 : ∀ w, Calls Try.prog 44 #[.string t, .int .i64 0] w fun e w' => e = .returned (.tuple #[.string wh, .int .i64 k]) ∧ w' = w) (hk : (k : Int) < t.size) (hc : ((t[k]'(by omega)).toNat : Int) = 46) (pt : ByteArray) (i : Nat) (R2 : ∀ w, Calls Try.prog 44 #[.string t, .int .i64 ((k : Int) + 1)] w fun e w' => e = .returned (.tuple #[.string pt, .int .i64 i]) ∧ w' = w) (b1 : wh.toList.isEmpty = false) (hl : ¬ (5000 : Int) < (wh.size : Int) + pt.size) (hz1 : wh.size ≤ 100000) (hz2 : pt.size ≤ 100000) (hi : ¬ (i : Int) < t.size) (hii : (i : Int) = t.size) (hda : (wh ++ pt).data.toList.all isD = true) (hd0 : 0 < (wh ++ pt).size) (hds : (wh ++ pt).size ≤ 20000) (hps : (pt.size : Int) ≤ 100000) :
    Calls Try.prog 27 #[.string s] w fun e w' => e = .returned (.tuple #[numV ng (valD (wh ++ pt).data.toList) (-(pt.size : Int)), .bool true]) ∧ Below w.heap.size w w' := by
  have hkb : (k : Int) ≤ 100000 := by omega
  have TD := fun w => tidy_any ng (wh ++ pt) (-(pt.size : Int)) w hda hd0 hds (by omega) (by omega)
  have A := fun w => run_string_add_sum (P := Try.prog) w wh pt (by omega)
  obtain ⟨D, E, hV⟩ := numV_form ng (valD (wh ++ pt).data.toList) (-(pt.size : Int))
  rw [hV] at TD ⊢
  clear hV hda hd0 hds
  generalize (wh ++ pt) = cc at A TD
  go_enter Try.func27, Try.ntmps27
  go_wp2_with fail
  refine (S _).mono ?_
  rintro e w1 ⟨rfl, hB1⟩
  rw [size1] at hB1
  clear S
  go_wp2_with fail
  refine (R1 _).mono ?_
  rintro e w1 ⟨rfl, rfl⟩
  go_wp2_with fail
  refine (R2 _).mono ?_
  rintro e w1 ⟨rfl, rfl⟩
  go_wp2_with fail
  refine (TD _).mono ?_
  rintro e w3 ⟨rfl, hB3⟩
  have hBB : Below (w.heap.size + 1) (w.alloc zC) w3 := hB1.trans (hB3.mono (by have := hB1.size; rw [size1] at this; omega))
  obtain ⟨r0, r1, r2, r3, f0, f1, f2, f3⟩ := res_cells hBB
  have hw := zC_below hBB
  clear TD A
  go_wp2
  exact bodyPost_ret (v := .tuple #[.agg #[.bool ng, .string D, .int .i64 E, .int .i64 0], .bool true]) (put4_results2 Try.results27 rfl rfl r0 r1 r2 r3 _ _ _ _) rfl ⟨rfl, put4_below hw (Nat.le_refl _) _ _ _ _⟩

set_option maxRecDepth 100000 in
set_option maxHeartbeats 400000 in
theorem rF_B_o2_end (s t : ByteArray) (ng : Bool) (w : World) (S : ∀ w, Calls Try.prog 41 #[.string s] w fun e w' => e = .returned (.tuple #[.string t, .bool ng]) ∧ Below w.heap.size w w') (ht : t.size ≤ 100000)
    (i1 : (t.toList == [46, 105, 110, 102]) = false) (i2 : (t.toList == [46, 73, 110, 102]) = false) (i3 : (t.toList == [46, 73, 78, 70]) = false) (n1 : (s.toList == [46, 110, 97, 110]) = false) (n2 : (s.toList == [46, 78, 97, 78]) = false) (n3 : (s.toList == [46, 78, 65, 78]) = false)
    (wh : ByteArray) (k : Nat) (R1 : ∀ w, Calls Try.prog 44 #[.string t, .int .i64 0] w fun e w' => e = .returned (.tuple #[.string wh, .int .i64 k]) ∧ w' = w) (hk : (k : Int) < t.size) (hc : ((t[k]'(by omega)).toNat : Int) = 46) (pt : ByteArray) (i : Nat) (R2 : ∀ w, Calls Try.prog 44 #[.string t, .int .i64 ((k : Int) + 1)] w fun e w' => e = .returned (.tuple #[.string pt, .int .i64 i]) ∧ w' = w) (b1 : wh.toList.isEmpty = true) (b2 : pt.toList.isEmpty = false) (hl : ¬ (5000 : Int) < (wh.size : Int) + pt.size) (hz1 : wh.size ≤ 100000) (hz2 : pt.size ≤ 100000) (hi : ¬ (i : Int) < t.size) (hii : (i : Int) = t.size) (hda : (wh ++ pt).data.toList.all isD = true) (hd0 : 0 < (wh ++ pt).size) (hds : (wh ++ pt).size ≤ 20000) (hps : (pt.size : Int) ≤ 100000) :
    Calls Try.prog 27 #[.string s] w fun e w' => e = .returned (.tuple #[numV ng (valD (wh ++ pt).data.toList) (-(pt.size : Int)), .bool true]) ∧ Below w.heap.size w w' := by
  have hkb : (k : Int) ≤ 100000 := by omega
  have TD := fun w => tidy_any ng (wh ++ pt) (-(pt.size : Int)) w hda hd0 hds (by omega) (by omega)
  have A := fun w => run_string_add_sum (P := Try.prog) w wh pt (by omega)
  obtain ⟨D, E, hV⟩ := numV_form ng (valD (wh ++ pt).data.toList) (-(pt.size : Int))
  rw [hV] at TD ⊢
  clear hV hda hd0 hds
  generalize (wh ++ pt) = cc at A TD
  go_enter Try.func27, Try.ntmps27
  go_wp2_with fail
  refine (S _).mono ?_
  rintro e w1 ⟨rfl, hB1⟩
  rw [size1] at hB1
  clear S
  go_wp2_with fail
  refine (R1 _).mono ?_
  rintro e w1 ⟨rfl, rfl⟩
  go_wp2_with fail
  refine (R2 _).mono ?_
  rintro e w1 ⟨rfl, rfl⟩
  go_wp2_with fail
  refine (TD _).mono ?_
  rintro e w3 ⟨rfl, hB3⟩
  have hBB : Below (w.heap.size + 1) (w.alloc zC) w3 := hB1.trans (hB3.mono (by have := hB1.size; rw [size1] at this; omega))
  obtain ⟨r0, r1, r2, r3, f0, f1, f2, f3⟩ := res_cells hBB
  have hw := zC_below hBB
  clear TD A
  go_wp2
  exact bodyPost_ret (v := .tuple #[.agg #[.bool ng, .string D, .int .i64 E, .int .i64 0], .bool true]) (put4_results2 Try.results27 rfl rfl r0 r1 r2 r3 _ _ _ _) rfl ⟨rfl, put4_below hw (Nat.le_refl _) _ _ _ _⟩

set_option maxRecDepth 100000 in
set_option maxHeartbeats 400000 in
theorem rF_A2_o1_other (s t : ByteArray) (ng : Bool) (w : World) (S : ∀ w, Calls Try.prog 41 #[.string s] w fun e w' => e = .returned (.tuple #[.string t, .bool ng]) ∧ Below w.heap.size w w') (ht : t.size ≤ 100000)
    (i1 : (t.toList == [46, 105, 110, 102]) = false) (i2 : (t.toList == [46, 73, 110, 102]) = false) (i3 : (t.toList == [46, 73, 78, 70]) = false) (n1 : (s.toList == [46, 110, 97, 110]) = false) (n2 : (s.toList == [46, 78, 97, 78]) = false) (n3 : (s.toList == [46, 78, 65, 78]) = false)
    (wh : ByteArray) (k : Nat) (R1 : ∀ w, Calls Try.prog 44 #[.string t, .int .i64 0] w fun e w' => e = .returned (.tuple #[.string wh, .int .i64 k]) ∧ w' = w) (hk : (k : Int) < t.size) (hc : ((t[k]'(by omega)).toNat : Int) ≠ 46) (b1 : wh.toList.isEmpty = false) (hl : ¬ (5000 : Int) < (wh.size : Int)) (hz1 : wh.size ≤ 100000) (g1 : ((t[k]'(by omega)).toNat : Int) ≠ 101) (g2 : ((t[k]'(by omega)).toNat : Int) ≠ 69) :
    Calls Try.prog 27 #[.string s] w fun e w' => e = .returned (.tuple #[zV, .bool false]) ∧ Below w.heap.size w w' := by
  have hc' : (((t[k]'(by omega)).toNat : Int) == 46) = false := beq_false_of_ne hc
  clear hc
  have hib : (k : Int) ≤ 100000 := by omega
  have hi1 : (k : Int) + 1 ≤ t.size := by omega
  have g1' : (((t[k]'(by omega)).toNat : Int) == 101) = false := beq_false_of_ne g1
  have g2' : (((t[k]'(by omega)).toNat : Int) == 69) = false := beq_false_of_ne g2
  have gn : ((k : Int) == t.size) = false := beq_false_of_ne (by omega)
  clear g1 g2
  go_enter Try.func27, Try.ntmps27
  go_wp2_with fail
  refine (S _).mono ?_
  rintro e w1 ⟨rfl, hB1⟩
  rw [size1] at hB1
  clear S
  go_wp2_with fail
  refine (R1 _).mono ?_
  rintro e w1 ⟨rfl, rfl⟩
  obtain ⟨r0, r1, r2, r3, f0, f1, f2, f3⟩ := res_cells hB1
  have hw := zC_below hB1
  go_wp2
  exact bodyPost_ret (v := .tuple #[zV, .bool false]) (put4_results2 Try.results27 rfl rfl r0 r1 r2 r3 _ _ _ _) rfl ⟨rfl, put4_below hw (Nat.le_refl _) _ _ _ _⟩

set_option maxRecDepth 100000 in
set_option maxHeartbeats 400000 in
theorem rF_B_o1_other (s t : ByteArray) (ng : Bool) (w : World) (S : ∀ w, Calls Try.prog 41 #[.string s] w fun e w' => e = .returned (.tuple #[.string t, .bool ng]) ∧ Below w.heap.size w w') (ht : t.size ≤ 100000)
    (i1 : (t.toList == [46, 105, 110, 102]) = false) (i2 : (t.toList == [46, 73, 110, 102]) = false) (i3 : (t.toList == [46, 73, 78, 70]) = false) (n1 : (s.toList == [46, 110, 97, 110]) = false) (n2 : (s.toList == [46, 78, 97, 78]) = false) (n3 : (s.toList == [46, 78, 65, 78]) = false)
    (wh : ByteArray) (k : Nat) (R1 : ∀ w, Calls Try.prog 44 #[.string t, .int .i64 0] w fun e w' => e = .returned (.tuple #[.string wh, .int .i64 k]) ∧ w' = w) (hk : (k : Int) < t.size) (hc : ((t[k]'(by omega)).toNat : Int) = 46) (pt : ByteArray) (i : Nat) (R2 : ∀ w, Calls Try.prog 44 #[.string t, .int .i64 ((k : Int) + 1)] w fun e w' => e = .returned (.tuple #[.string pt, .int .i64 i]) ∧ w' = w) (b1 : wh.toList.isEmpty = false) (hl : ¬ (5000 : Int) < (wh.size : Int) + pt.size) (hz1 : wh.size ≤ 100000) (hz2 : pt.size ≤ 100000) (hi : (i : Int) < t.size) (g1 : ((t[i]'(by omega)).toNat : Int) ≠ 101) (g2 : ((t[i]'(by omega)).toNat : Int) ≠ 69) :
    Calls Try.prog 27 #[.string s] w fun e w' => e = .returned (.tuple #[zV, .bool false]) ∧ Below w.heap.size w w' := by
  have hkb : (k : Int) ≤ 100000 := by omega
  have hib : (i : Int) ≤ 100000 := by omega
  have hi1 : (i : Int) + 1 ≤ t.size := by omega
  have g1' : (((t[i]'(by omega)).toNat : Int) == 101) = false := beq_false_of_ne g1
  have g2' : (((t[i]'(by omega)).toNat : Int) == 69) = false := beq_false_of_ne g2
  have gn : ((i : Int) == t.size) = false := beq_false_of_ne (by omega)
  clear g1 g2
  go_enter Try.func27, Try.ntmps27
  go_wp2_with fail
  refine (S _).mono ?_
  rintro e w1 ⟨rfl, hB1⟩
  rw [size1] at hB1
  clear S
  go_wp2_with fail
  refine (R1 _).mono ?_
  rintro e w1 ⟨rfl, rfl⟩
  go_wp2_with fail
  refine (R2 _).mono ?_
  rintro e w1 ⟨rfl, rfl⟩
  obtain ⟨r0, r1, r2, r3, f0, f1, f2, f3⟩ := res_cells hB1
  have hw := zC_below hB1
  go_wp2
  exact bodyPost_ret (v := .tuple #[zV, .bool false]) (put4_results2 Try.results27 rfl rfl r0 r1 r2 r3 _ _ _ _) rfl ⟨rfl, put4_below hw (Nat.le_refl _) _ _ _ _⟩

set_option maxRecDepth 100000 in
set_option maxHeartbeats 400000 in
theorem rF_B_o2_other (s t : ByteArray) (ng : Bool) (w : World) (S : ∀ w, Calls Try.prog 41 #[.string s] w fun e w' => e = .returned (.tuple #[.string t, .bool ng]) ∧ Below w.heap.size w w') (ht : t.size ≤ 100000)
    (i1 : (t.toList == [46, 105, 110, 102]) = false) (i2 : (t.toList == [46, 73, 110, 102]) = false) (i3 : (t.toList == [46, 73, 78, 70]) = false) (n1 : (s.toList == [46, 110, 97, 110]) = false) (n2 : (s.toList == [46, 78, 97, 78]) = false) (n3 : (s.toList == [46, 78, 65, 78]) = false)
    (wh : ByteArray) (k : Nat) (R1 : ∀ w, Calls Try.prog 44 #[.string t, .int .i64 0] w fun e w' => e = .returned (.tuple #[.string wh, .int .i64 k]) ∧ w' = w) (hk : (k : Int) < t.size) (hc : ((t[k]'(by omega)).toNat : Int) = 46) (pt : ByteArray) (i : Nat) (R2 : ∀ w, Calls Try.prog 44 #[.string t, .int .i64 ((k : Int) + 1)] w fun e w' => e = .returned (.tuple #[.string pt, .int .i64 i]) ∧ w' = w) (b1 : wh.toList.isEmpty = true) (b2 : pt.toList.isEmpty = false) (hl : ¬ (5000 : Int) < (wh.size : Int) + pt.size) (hz1 : wh.size ≤ 100000) (hz2 : pt.size ≤ 100000) (hi : (i : Int) < t.size) (g1 : ((t[i]'(by omega)).toNat : Int) ≠ 101) (g2 : ((t[i]'(by omega)).toNat : Int) ≠ 69) :
    Calls Try.prog 27 #[.string s] w fun e w' => e = .returned (.tuple #[zV, .bool false]) ∧ Below w.heap.size w w' := by
  have hkb : (k : Int) ≤ 100000 := by omega
  have hib : (i : Int) ≤ 100000 := by omega
  have hi1 : (i : Int) + 1 ≤ t.size := by omega
  have g1' : (((t[i]'(by omega)).toNat : Int) == 101) = false := beq_false_of_ne g1
  have g2' : (((t[i]'(by omega)).toNat : Int) == 69) = false := beq_false_of_ne g2
  have gn : ((i : Int) == t.size) = false := beq_false_of_ne (by omega)
  clear g1 g2
  go_enter Try.func27, Try.ntmps27
  go_wp2_with fail
  refine (S _).mono ?_
  rintro e w1 ⟨rfl, hB1⟩
  rw [size1] at hB1
  clear S
  go_wp2_with fail
  refine (R1 _).mono ?_
  rintro e w1 ⟨rfl, rfl⟩
  go_wp2_with fail
  refine (R2 _).mono ?_
  rintro e w1 ⟨rfl, rfl⟩
  obtain ⟨r0, r1, r2, r3, f0, f1, f2, f3⟩ := res_cells hB1
  have hw := zC_below hB1
  go_wp2
  exact bodyPost_ret (v := .tuple #[zV, .bool false]) (put4_results2 Try.results27 rfl rfl r0 r1 r2 r3 _ _ _ _) rfl ⟨rfl, put4_below hw (Nat.le_refl _) _ _ _ _⟩

end Go.Proofs.Ytpffegkckejpiaa
