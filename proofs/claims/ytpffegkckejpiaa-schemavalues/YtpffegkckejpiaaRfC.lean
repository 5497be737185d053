/- The document's own Float: with an exponent. -/
import Derived.Test.YtpffegkckejpiaaRfE
set_option linter.unusedVariables false
set_option linter.unusedSimpArgs false
set_option maxRecDepth 100000
namespace Go.Proofs.Ytpffegkckejpiaa
open Go.RowKit

set_option maxRecDepth 100000 in
set_option maxHeartbeats 400000 in
theorem rF_B_o1_none1 (s t : ByteArray) (ng : Bool) (w : World) (S : ∀ w, Calls Try.prog 41 #[.string s] w fun e w' => e = .returned (.tuple #[.string t, .bool ng]) ∧ Below w.heap.size w w') (ht : t.size ≤ 100000)
    (i1 : (t.toList == [46, 105, 110, 102]) = false) (i2 : (t.toList == [46, 73, 110, 102]) = false) (i3 : (t.toList == [46, 73, 78, 70]) = false) (n1 : (s.toList == [46, 110, 97, 110]) = false) (n2 : (s.toList == [46, 78, 97, 78]) = false) (n3 : (s.toList == [46, 78, 65, 78]) = false)
    (wh : ByteArray) (k : Nat) (R1 : ∀ w, Calls Try.prog 44 #[.string t, .int .i64 0] w fun e w' => e = .returned (.tuple #[.string wh, .int .i64 k]) ∧ w' = w) (hk : (k : Int) < t.size) (hc : ((t[k]'(by omega)).toNat : Int) = 46) (pt : ByteArray) (i : Nat) (R2 : ∀ w, Calls Try.prog 44 #[.string t, .int .i64 ((k : Int) + 1)] w fun e w' => e = .returned (.tuple #[.string pt, .int .i64 i]) ∧ w' = w) (b1 : wh.toList.isEmpty = false) (hl : ¬ (5000 : Int) < (wh.size : Int) + pt.size) (hz1 : wh.size ≤ 100000) (hz2 : pt.size ≤ 100000) (hi : (i : Int) < t.size) (gE : ((t[i]'(by omega)).toNat : Int) = 101 ∨ (((t[i]'(by omega)).toNat : Int) ≠ 101 ∧ ((t[i]'(by omega)).toNat : Int) = 69)) (u ev : ByteArray) (k2 : Nat) (mi : Bool) (hu : (u.size : Int) ≤ 100000) (S2 : ∀ w, Calls Try.prog 41 #[.string (t.extract (i + 1) t.size)] w fun e w' => e = .returned (.tuple #[.string u, .bool mi]) ∧ Below w.heap.size w w') (R3 : ∀ w, Calls Try.prog 44 #[.string u, .int .i64 0] w fun e w' => e = .returned (.tuple #[.string ev, .int .i64 k2]) ∧ w' = w) (q0 : (k2 : Int) ≠ u.size) :
    Calls Try.prog 27 #[.string s] w fun e w' => e = .returned (.tuple #[zV, .bool false]) ∧ Below w.heap.size w w' := by
  have hkb : (k : Int) ≤ 100000 := by omega
  have hib : (i : Int) ≤ 100000 := by omega
  have hi1 : (i : Int) + 1 ≤ t.size := by omega
  have q1 : ((k2 : Int) == u.size) = false := beq_false_of_ne q0
  have q2 : ((k2 : Int) != u.size) = true := bne_iff_ne.2 q0
  rcases gE with g1 | ⟨g0, g1⟩
  · go_enter Try.func27, Try.ntmps27
    go_wp2_with fail
    refine (S _).mono ?_
    rintro e w1 ⟨rfl, hB1⟩
    rw [size1] at hB1
    clear S
    go_wp2_with fail
    refine (R1 _).mono ?_
    rintro e w1 ⟨rfl, rfl⟩
    go_wp2_with fail
    refine (R2 _).mono ?_
    rintro e w1 ⟨rfl, rfl⟩
    go_wp2_with fail
    refine (S2 _).mono ?_
    rintro e w2 ⟨rfl, hB2⟩
    have hBB : Below (w.heap.size + 1) (w.alloc zC) w2 := hB1.trans (hB2.mono (by have := hB1.size; rw [size1] at this; omega))
    go_wp2_with fail
    refine (R3 _).mono ?_
    rintro e w2 ⟨rfl, rfl⟩
    obtain ⟨r0, r1, r2, r3, f0, f1, f2, f3⟩ := res_cells hBB
    have hw := zC_below hBB
    go_wp2
    exact bodyPost_ret (v := .tuple #[zV, .bool false]) (put4_results2 Try.results27 rfl rfl r0 r1 r2 r3 _ _ _ _) rfl ⟨rfl, put4_below hw (Nat.le_refl _) _ _ _ _⟩
  · have g0' : (((t[i]'(by omega)).toNat : Int) == 101) = false := beq_false_of_ne g0
    clear g0
    go_enter Try.func27, Try.ntmps27
    go_wp2_with fail
    refine (S _).mono ?_
    rintro e w1 ⟨rfl, hB1⟩
    rw [size1] at hB1
    clear S
    go_wp2_with fail
    refine (R1 _).mono ?_
    rintro e w1 ⟨rfl, rfl⟩
    go_wp2_with fail
    refine (R2 _).mono ?_
    rintro e w1 ⟨rfl, rfl⟩
    go_wp2_with fail
    refine (S2 _).mono ?_
    rintro e w2 ⟨rfl, hB2⟩
    have hBB : Below (w.heap.size + 1) (w.alloc zC) w2 := hB1.trans (hB2.mono (by have := hB1.size; rw [size1] at this; omega))
    go_wp2_with fail
    refine (R3 _).mono ?_
    rintro e w2 ⟨rfl, rfl⟩
    obtain ⟨r0, r1, r2, r3, f0, f1, f2, f3⟩ := res_cells hBB
    have hw := zC_below hBB
    go_wp2
    exact bodyPost_ret (v := .tuple #[zV, .bool false]) (put4_results2 Try.results27 rfl rfl r0 r1 r2 r3 _ _ _ _) rfl ⟨rfl, put4_below hw (Nat.le_refl _) _ _ _ _⟩

set_option maxRecDepth 100000 in
set_option maxHeartbeats 400000 in
theorem rF_B_o1_none2 (s t : ByteArray) (ng : Bool) (w : World) (S : ∀ w, Calls Try.prog 41 #[.string s] w fun e w' => e = .returned (.tuple #[.string t, .bool ng]) ∧ Below w.heap.size w w') (ht : t.size ≤ 100000)
    (i1 : (t.toList == [46, 105, 110, 102]) = false) (i2 : (t.toList == [46, 73, 110, 102]) = false) (i3 : (t.toList == [46, 73, 78, 70]) = false) (n1 : (s.toList == [46, 110, 97, 110]) = false) (n2 : (s.toList == [46, 78, 97, 78]) = false) (n3 : (s.toList == [46, 78, 65, 78]) = false)
    (wh : ByteArray) (k : Nat) (R1 : ∀ w, Calls Try.prog 44 #[.string t, .int .i64 0] w fun e w' => e = .returned (.tuple #[.string wh, .int .i64 k]) ∧ w' = w) (hk : (k : Int) < t.size) (hc : ((t[k]'(by omega)).toNat : Int) = 46) (pt : ByteArray) (i : Nat) (R2 : ∀ w, Calls Try.prog 44 #[.string t, .int .i64 ((k : Int) + 1)] w fun e w' => e = .returned (.tuple #[.string pt, .int .i64 i]) ∧ w' = w) (b1 : wh.toList.isEmpty = false) (hl : ¬ (5000 : Int) < (wh.size : Int) + pt.size) (hz1 : wh.size ≤ 100000) (hz2 : pt.size ≤ 100000) (hi : (i : Int) < t.size) (gE : ((t[i]'(by omega)).toNat : Int) = 101 ∨ (((t[i]'(by omega)).toNat : Int) ≠ 101 ∧ ((t[i]'(by omega)).toNat : Int) = 69)) (u ev : ByteArray) (k2 : Nat) (mi : Bool) (hu : (u.size : Int) ≤ 100000) (S2 : ∀ w, Calls Try.prog 41 #[.string (t.extract (i + 1) t.size)] w fun e w' => e = .returned (.tuple #[.string u, .bool mi]) ∧ Below w.heap.size w w') (R3 : ∀ w, Calls Try.prog 44 #[.string u, .int .i64 0] w fun e w' => e = .returned (.tuple #[.string ev, .int .i64 k2]) ∧ w' = w) (q1 : (k2 : Int) = u.size) (q2 : (k2 : Int) < 1) :
    Calls Try.prog 27 #[.string s] w fun e w' => e = .returned (.tuple #[zV, .bool false]) ∧ Below w.heap.size w w' := by
  have hkb : (k : Int) ≤ 100000 := by omega
  have hib : (i : Int) ≤ 100000 := by omega
  have hi1 : (i : Int) + 1 ≤ t.size := by omega
  rcases gE with g1 | ⟨g0, g1⟩
  · go_enter Try.func27, Try.ntmps27
    go_wp2_with fail
    refine (S _).mono ?_
    rintro e w1 ⟨rfl, hB1⟩
    rw [size1] at hB1
    clear S
    go_wp2_with fail
    refine (R1 _).mono ?_
    rintro e w1 ⟨rfl, rfl⟩
    go_wp2_with fail
    refine (R2 _).mono ?_
    rintro e w1 ⟨rfl, rfl⟩
    go_wp2_with fail
    refine (S2 _).mono ?_
    rintro e w2 ⟨rfl, hB2⟩
    have hBB : Below (w.heap.size + 1) (w.alloc zC) w2 := hB1.trans (hB2.mono (by have := hB1.size; rw [size1] at this; omega))
    go_wp2_with fail
    refine (R3 _).mono ?_
    rintro e w2 ⟨rfl, rfl⟩
    obtain ⟨r0, r1, r2, r3, f0, f1, f2, f3⟩ := res_cells hBB
    have hw := zC_below hBB
    go_wp2
    exact bodyPost_ret (v := .tuple #[zV, .bool false]) (put4_results2 Try.results27 rfl rfl r0 r1 r2 r3 _ _ _ _) rfl ⟨rfl, put4_below hw (Nat.le_refl _) _ _ _ _⟩
  · have g0' : (((t[i]'(by omega)).toNat : Int) == 101) = false := beq_false_of_ne g0
    clear g0
    go_enter Try.func27, Try.ntmps27
    go_wp2_with fail
    refine (S _).mono ?_
    rintro e w1 ⟨rfl, hB1⟩
    rw [size1] at hB1
    clear S
    go_wp2_with fail
    refine (R1 _).mono ?_
    rintro e w1 ⟨rfl, rfl⟩
    go_wp2_with fail
    refine (R2 _).mono ?_
    rintro e w1 ⟨rfl, rfl⟩
    go_wp2_with fail
    refine (S2 _).mono ?_
    rintro e w2 ⟨rfl, hB2⟩
    have hBB : Below (w.heap.size + 1) (w.alloc zC) w2 := hB1.trans (hB2.mono (by have := hB1.size; rw [size1] at this; omega))
    go_wp2_with fail
    refine (R3 _).mono ?_
    rintro e w2 ⟨rfl, rfl⟩
    obtain ⟨r0, r1, r2, r3, f0, f1, f2, f3⟩ := res_cells hBB
    have hw := zC_below hBB
    go_wp2
    exact bodyPost_ret (v := .tuple #[zV, .bool false]) (put4_results2 Try.results27 rfl rfl r0 r1 r2 r3 _ _ _ _) rfl ⟨rfl, put4_below hw (Nat.le_refl _) _ _ _ _⟩

set_option maxRecDepth 100000 in
set_option maxHeartbeats 400000 in
theorem rF_B_o1_none3 (s t : ByteArray) (ng : Bool) (w : World) (S : ∀ w, Calls Try.prog 41 #[.string s] w fun e w' => e = .returned (.tuple #[.string t, .bool ng]) ∧ Below w.heap.size w w') (ht : t.size ≤ 100000)
    (i1 : (t.toList == [46, 105, 110, 102]) = false) (i2 : (t.toList == [46, 73, 110, 102]) = false) (i3 : (t.toList == [46, 73, 78, 70]) = false) (n1 : (s.toList == [46, 110, 97, 110]) = false) (n2 : (s.toList == [46, 78, 97, 78]) = false) (n3 : (s.toList == [46, 78, 65, 78]) = false)
    (wh : ByteArray) (k : Nat) (R1 : ∀ w, Calls Try.prog 44 #[.string t, .int .i64 0] w fun e w' => e = .returned (.tuple #[.string wh, .int .i64 k]) ∧ w' = w) (hk : (k : Int) < t.size) (hc : ((t[k]'(by omega)).toNat : Int) = 46) (pt : ByteArray) (i : Nat) (R2 : ∀ w, Calls Try.prog 44 #[.string t, .int .i64 ((k : Int) + 1)] w fun e w' => e = .returned (.tuple #[.string pt, .int .i64 i]) ∧ w' = w) (b1 : wh.toList.isEmpty = false) (hl : ¬ (5000 : Int) < (wh.size : Int) + pt.size) (hz1 : wh.size ≤ 100000) (hz2 : pt.size ≤ 100000) (hi : (i : Int) < t.size) (gE : ((t[i]'(by omega)).toNat : Int) = 101 ∨ (((t[i]'(by omega)).toNat : Int) ≠ 101 ∧ ((t[i]'(by omega)).toNat : Int) = 69)) (u ev : ByteArray) (k2 : Nat) (mi : Bool) (hu : (u.size : Int) ≤ 100000) (S2 : ∀ w, Calls Try.prog 41 #[.string (t.extract (i + 1) t.size)] w fun e w' => e = .returned (.tuple #[.string u, .bool mi]) ∧ Below w.heap.size w w') (R3 : ∀ w, Calls Try.prog 44 #[.string u, .int .i64 0] w fun e w' => e = .returned (.tuple #[.string ev, .int .i64 k2]) ∧ w' = w) (q1 : (k2 : Int) = u.size) (q2 : ¬ (k2 : Int) < 1) (q3 : (9 : Int) < k2) :
    Calls Try.prog 27 #[.string s] w fun e w' => e = .returned (.tuple #[zV, .bool false]) ∧ Below w.heap.size w w' := by
  have hkb : (k : Int) ≤ 100000 := by omega
  have hib : (i : Int) ≤ 100000 := by omega
  have hi1 : (i : Int) + 1 ≤ t.size := by omega
  rcases gE with g1 | ⟨g0, g1⟩
  · go_enter Try.func27, Try.ntmps27
    go_wp2_with fail
    refine (S _).mono ?_
    rintro e w1 ⟨rfl, hB1⟩
    rw [size1] at hB1
    clear S
    go_wp2_with fail
    refine (R1 _).mono ?_
    rintro e w1 ⟨rfl, rfl⟩
    go_wp2_with fail
    refine (R2 _).mono ?_
    rintro e w1 ⟨rfl, rfl⟩
    go_wp2_with fail
    refine (S2 _).mono ?_
    rintro e w2 ⟨rfl, hB2⟩
    have hBB : Below (w.heap.size + 1) (w.alloc zC) w2 := hB1.trans (hB2.mono (by have := hB1.size; rw [size1] at this; omega))
    go_wp2_with fail
    refine (R3 _).mono ?_
    rintro e w2 ⟨rfl, rfl⟩
    obtain ⟨r0, r1, r2, r3, f0, f1, f2, f3⟩ := res_cells hBB
    have hw := zC_below hBB
    go_wp2
    exact bodyPost_ret (v := .tuple #[zV, .bool false]) (put4_results2 Try.results27 rfl rfl r0 r1 r2 r3 _ _ _ _) rfl ⟨rfl, put4_below hw (Nat.le_refl _) _ _ _ _⟩
  · have g0' : (((t[i]'(by omega)).toNat : Int) == 101) = false := beq_false_of_ne g0
    clear g0
    go_enter Try.func27, Try.ntmps27
    go_wp2_with fail
    refine (S _).mono ?_
    rintro e w1 ⟨rfl, hB1⟩
    rw [size1] at hB1
    clear S
    go_wp2_with fail
    refine (R1 _).mono ?_
    rintro e w1 ⟨rfl, rfl⟩
    go_wp2_with fail
    refine (R2 _).mono ?_
    rintro e w1 ⟨rfl, rfl⟩
    go_wp2_with fail
    refine (S2 _).mono ?_
    rintro e w2 ⟨rfl, hB2⟩
    have hBB : Below (w.heap.size + 1) (w.alloc zC) w2 := hB1.trans (hB2.mono (by have := hB1.size; rw [size1] at this; omega))
    go_wp2_with fail
    refine (R3 _).mono ?_
    rintro e w2 ⟨rfl, rfl⟩
    obtain ⟨r0, r1, r2, r3, f0, f1, f2, f3⟩ := res_cells hBB
    have hw := zC_below hBB
    go_wp2
    exact bodyPost_ret (v := .tuple #[zV, .bool false]) (put4_results2 Try.results27 rfl rfl r0 r1 r2 r3 _ _ _ _) rfl ⟨rfl, put4_below hw (Nat.le_refl _) _ _ _ _⟩

set_option maxRecDepth 100000 in
set_option maxHeartbeats 400000 in
theorem rF_B_o1_some0 (s t : ByteArray) (ng : Bool) (w : World) (S : ∀ w, Calls Try.prog 41 #[.string s] w fun e w' => e = .returned (.tuple #[.string t, .bool ng]) ∧ Below w.heap.size w w') (ht : t.size ≤ 100000)
    (i1 : (t.toList == [46, 105, 110, 102]) = false) (i2 : (t.toList == [46, 73, 110, 102]) = false) (i3 : (t.toList == [46, 73, 78, 70]) = false) (n1 : (s.toList == [46, 110, 97, 110]) = false) (n2 : (s.toList == [46, 78, 97, 78]) = false) (n3 : (s.toList == [46, 78, 65, 78]) = false)
    (wh : ByteArray) (k : Nat) (R1 : ∀ w, Calls Try.prog 44 #[.string t, .int .i64 0] w fun e w' => e = .returned (.tuple #[.string wh, .int .i64 k]) ∧ w' = w) (hk : (k : Int) < t.size) (hc : ((t[k]'(by omega)).toNat : Int) = 46) (pt : ByteArray) (i : Nat) (R2 : ∀ w, Calls Try.prog 44 #[.string t, .int .i64 ((k : Int) + 1)] w fun e w' => e = .returned (.tuple #[.string pt, .int .i64 i]) ∧ w' = w) (b1 : wh.toList.isEmpty = false) (hl : ¬ (5000 : Int) < (wh.size : Int) + pt.size) (hz1 : wh.size ≤ 100000) (hz2 : pt.size ≤ 100000) (hi : (i : Int) < t.size) (gE : ((t[i]'(by omega)).toNat : Int) = 101 ∨ (((t[i]'(by omega)).toNat : Int) ≠ 101 ∧ ((t[i]'(by omega)).toNat : Int) = 69)) (u ev : ByteArray) (k2 : Nat) (mi : Bool) (hu : (u.size : Int) ≤ 100000) (S2 : ∀ w, Calls Try.prog 41 #[.string (t.extract (i + 1) t.size)] w fun e w' => e = .returned (.tuple #[.string u, .bool mi]) ∧ Below w.heap.size w w') (R3 : ∀ w, Calls Try.prog 44 #[.string u, .int .i64 0] w fun e w' => e = .returned (.tuple #[.string ev, .int .i64 k2]) ∧ w' = w) (q1 : (k2 : Int) = u.size) (q2 : ¬ (k2 : Int) < 1) (q3 : ¬ (9 : Int) < k2) (hev : ev.data.toList = u.data.toList) (hud : u.data.toList.all isD = true) (hmi : mi = false) (hda : (wh ++ pt).data.toList.all isD = true) (hd0 : 0 < (wh ++ pt).size) (hds : (wh ++ pt).size ≤ 20000) (hps : (pt.size : Int) ≤ 100000) :
    Calls Try.prog 27 #[.string s] w fun e w' => e = .returned (.tuple #[numV ng (valD (wh ++ pt).data.toList) ((valD u.data.toList : Int) - (pt.size : Int)), .bool true]) ∧ Below w.heap.size w w' := by
  have hkb : (k : Int) ≤ 100000 := by omega
  have hib : (i : Int) ≤ 100000 := by omega
  have hi1 : (i : Int) + 1 ≤ t.size := by omega
  subst hmi
  have HX : Hid (∀ (jj : Nat) (n : Int), jj < k2 → ∀ h : jj < ev.size, n = (valD (u.data.toList.take jj) : Int) → 48 ≤ (ev[jj].toNat : Int) ∧ (ev[jj].toNat : Int) ≤ 57 ∧ (0 ≤ n * 10 + (ev[jj].toNat : Int) - 48 ∧ n * 10 + (ev[jj].toNat : Int) - 48 ≤ 999999999) ∧ n * 10 + (ev[jj].toNat : Int) - 48 = (valD (u.data.toList.take (jj + 1)) : Int)) := fun jj n h1 h2 h3 => exp_step hev hud (by omega) h2 h3
  have hes : ev.size = u.size := by rw [Lib.size_eq, hev, ← Lib.size_eq]
  have hvr := exp_bound hud (show u.size ≤ 9 by omega)
  have TD := fun w => tidy_any ng (wh ++ pt) ((valD u.data.toList : Int) - (pt.size : Int)) w hda hd0 hds (by omega) (by omega)
  have A := fun w => run_string_add_sum (P := Try.prog) w wh pt (by omega)
  clear hda hd0 hds hvr hud hev
  generalize (wh ++ pt) = cc at A TD ⊢
  obtain ⟨VV, hVV⟩ : ∃ V, valD cc.data.toList = V := ⟨_, rfl⟩
  rw [hVV] at TD ⊢
  clear hVV
  rcases gE with g1 | ⟨g0, g1⟩
  · go_enter Try.func27, Try.ntmps27
    go_wp2_with fail
    refine (S _).mono ?_
    rintro e w1 ⟨rfl, hB1⟩
    rw [size1] at hB1
    clear S
    go_wp2_with fail
    refine (R1 _).mono ?_
    rintro e w1 ⟨rfl, rfl⟩
    go_wp2_with fail
    refine (R2 _).mono ?_
    rintro e w1 ⟨rfl, rfl⟩
    go_wp2_with fail
    refine (S2 _).mono ?_
    rintro e w2 ⟨rfl, hB2⟩
    have hBB : Below (w.heap.size + 1) (w.alloc zC) w2 := hB1.trans (hB2.mono (by have := hB1.size; rw [size1] at this; omega))
    clear hB2 S2
    go_wp2_with fail
    refine (R3 _).mono ?_
    rintro e w2 ⟨rfl, rfl⟩
    clear R3
    go_wp2
    go_loop [9, 14] (fun v j => ∃ (n : Int) (jj : Nat), jj ≤ k2 ∧ v = .int .i64 n ∧ j = .int .i64 jj ∧ 0 ≤ n ∧ n ≤ 999999999 ∧ Hid (n = (valD (u.data.toList.take jj) : Int))) (fun _ j => k2 - (intOf j).toNat)
    case atStart => exact ⟨0, 0, Nat.zero_le _, rfl, rfl, by decide, by decide, rfl⟩
    case round =>
      obtain ⟨n, jj, hj, rfl, rfl, hn0, hn1, HN⟩ := hrel
      by_cases hlt : jj < k2
      · have hl : (jj : Int) < k2 := by omega
        have hev2 : jj < ev.size := by omega
        have hevi : (jj : Int) < ev.size := by omega
        obtain ⟨d1, d2, d3, d4⟩ := HX.out jj n hlt hev2 HN.out
        have HN2 : Hid (n * 10 + (ev[jj].toNat : Int) - 48 = (valD (u.data.toList.take (jj + 1)) : Int)) := d4
        have HW : Hid (wrap64 (wrap64 (n * 10 + wrap64 (ev[jj].toNat : Int)) - 48) = n * 10 + (ev[jj].toNat : Int) - 48) := wrap3 n _ hn0 hn1 d1 d2
        have HD3 : Hid (0 ≤ n * 10 + (ev[jj].toNat : Int) - 48 ∧ n * 10 + (ev[jj].toNat : Int) - 48 ≤ 999999999) := d3
        clear d1 d2 d3 d4
        go_wp2
        go_round
        case rel =>
          refine ⟨_, jj + 1, by omega, rfl, by go_num, ?_⟩
          rw [HW.out]
          exact ⟨HD3.out.1, HD3.out.2, HN2⟩
        case measure => simp [intOf] <;> omega
      · obtain rfl : jj = k2 := by omega
        have hnv : n = (valD u.data.toList : Int) := by
          have h := HN.out
          rwa [List.take_of_length_le (by rw [← Lib.size_eq]; omega)] at h
        rw [← hnv] at TD
        have HNV : Hid (n = (valD u.data.toList : Int)) := hnv
        clear hnv HN HX
        go_wp2_with fail
        refine (TD _).mono ?_
        rintro e w3 ⟨rfl, hB3⟩
        have hBD : Below (w.heap.size + 1) (w.alloc zC) w3 := hBB.trans (hB3.mono (by have := hBB.size; rw [size1] at this; omega))
        obtain ⟨r0, r1, r2, r3, f0, f1, f2, f3⟩ := res_cells hBD
        have hw := zC_below hBD
        obtain ⟨D, E, hV⟩ := numV_form ng VV (n - (pt.size : Int))
        rw [hV]
        have HV : Hid _ := hV
        clear hV TD A
        go_wp2
        exact bodyPost_ret (v := .tuple #[.agg #[.bool ng, .string D, .int .i64 E, .int .i64 0], .bool true]) (put4_results2 Try.results27 rfl rfl r0 r1 r2 r3 _ _ _ _) rfl ⟨by rw [← HNV.out, HV.out], put4_below hw (Nat.le_refl _) _ _ _ _⟩
  · have g0' : (((t[i]'(by omega)).toNat : Int) == 101) = false := beq_false_of_ne g0
    clear g0
    go_enter Try.func27, Try.ntmps27
    go_wp2_with fail
    refine (S _).mono ?_
    rintro e w1 ⟨rfl, hB1⟩
    rw [size1] at hB1
    clear S
    go_wp2_with fail
    refine (R1 _).mono ?_
    rintro e w1 ⟨rfl, rfl⟩
    go_wp2_with fail
    refine (R2 _).mono ?_
    rintro e w1 ⟨rfl, rfl⟩
    go_wp2_with fail
    refine (S2 _).mono ?_
    rintro e w2 ⟨rfl, hB2⟩
    have hBB : Below (w.heap.size + 1) (w.alloc zC) w2 := hB1.trans (hB2.mono (by have := hB1.size; rw [size1] at this; omega))
    clear hB2 S2
    go_wp2_with fail
    refine (R3 _).mono ?_
    rintro e w2 ⟨rfl, rfl⟩
    clear R3
    go_wp2
    go_loop [9, 14] (fun v j => ∃ (n : Int) (jj : Nat), jj ≤ k2 ∧ v = .int .i64 n ∧ j = .int .i64 jj ∧ 0 ≤ n ∧ n ≤ 999999999 ∧ Hid (n = (valD (u.data.toList.take jj) : Int))) (fun _ j => k2 - (intOf j).toNat)
    case atStart => exact ⟨0, 0, Nat.zero_le _, rfl, rfl, by decide, by decide, rfl⟩
    case round =>
      obtain ⟨n, jj, hj, rfl, rfl, hn0, hn1, HN⟩ := hrel
      by_cases hlt : jj < k2
      · have hl : (jj : Int) < k2 := by omega
        have hev2 : jj < ev.size := by omega
        have hevi : (jj : Int) < ev.size := by omega
        obtain ⟨d1, d2, d3, d4⟩ := HX.out jj n hlt hev2 HN.out
        have HN2 : Hid (n * 10 + (ev[jj].toNat : Int) - 48 = (valD (u.data.toList.take (jj + 1)) : Int)) := d4
        have HW : Hid (wrap64 (wrap64 (n * 10 + wrap64 (ev[jj].toNat : Int)) - 48) = n * 10 + (ev[jj].toNat : Int) - 48) := wrap3 n _ hn0 hn1 d1 d2
        have HD3 : Hid (0 ≤ n * 10 + (ev[jj].toNat : Int) - 48 ∧ n * 10 + (ev[jj].toNat : Int) - 48 ≤ 999999999) := d3
        clear d1 d2 d3 d4
        go_wp2
        go_round
        case rel =>
          refine ⟨_, jj + 1, by omega, rfl, by go_num, ?_⟩
          rw [HW.out]
          exact ⟨HD3.out.1, HD3.out.2, HN2⟩
        case measure => simp [intOf] <;> omega
      · obtain rfl : jj = k2 := by omega
        have hnv : n = (valD u.data.toList : Int) := by
          have h := HN.out
          rwa [List.take_of_length_le (by rw [← Lib.size_eq]; omega)] at h
        rw [← hnv] at TD
        have HNV : Hid (n = (valD u.data.toList : Int)) := hnv
        clear hnv HN HX
        go_wp2_with fail
        refine (TD _).mono ?_
        rintro e w3 ⟨rfl, hB3⟩
        have hBD : Below (w.heap.size + 1) (w.alloc zC) w3 := hBB.trans (hB3.mono (by have := hBB.size; rw [size1] at this; omega))
        obtain ⟨r0, r1, r2, r3, f0, f1, f2, f3⟩ := res_cells hBD
        have hw := zC_below hBD
        obtain ⟨D, E, hV⟩ := numV_form ng VV (n - (pt.size : Int))
        rw [hV]
        have HV : Hid _ := hV
        clear hV TD A
        go_wp2
        exact bodyPost_ret (v := .tuple #[.agg #[.bool ng, .string D, .int .i64 E, .int .i64 0], .bool true]) (put4_results2 Try.results27 rfl rfl r0 r1 r2 r3 _ _ _ _) rfl ⟨by rw [← HNV.out, HV.out], put4_below hw (Nat.le_refl _) _ _ _ _⟩

set_option maxRecDepth 100000 in
set_option maxHeartbeats 400000 in
theorem rF_B_o1_some1 (s t : ByteArray) (ng : Bool) (w : World) (S : ∀ w, Calls Try.prog 41 #[.string s] w fun e w' => e = .returned (.tuple #[.string t, .bool ng]) ∧ Below w.heap.size w w') (ht : t.size ≤ 100000)
    (i1 : (t.toList == [46, 105, 110, 102]) = false) (i2 : (t.toList == [46, 73, 110, 102]) = false) (i3 : (t.toList == [46, 73, 78, 70]) = false) (n1 : (s.toList == [46, 110, 97, 110]) = false) (n2 : (s.toList == [46, 78, 97, 78]) = false) (n3 : (s.toList == [46, 78, 65, 78]) = false)
    (wh : ByteArray) (k : Nat) (R1 : ∀ w, Calls Try.prog 44 #[.string t, .int .i64 0] w fun e w' => e = .returned (.tuple #[.string wh, .int .i64 k]) ∧ w' = w) (hk : (k : Int) < t.size) (hc : ((t[k]'(by omega)).toNat : Int) = 46) (pt : ByteArray) (i : Nat) (R2 : ∀ w, Calls Try.prog 44 #[.string t, .int .i64 ((k : Int) + 1)] w fun e w' => e = .returned (.tuple #[.string pt, .int .i64 i]) ∧ w' = w) (b1 : wh.toList.isEmpty = false) (hl : ¬ (5000 : Int) < (wh.size : Int) + pt.size) (hz1 : wh.size ≤ 100000) (hz2 : pt.size ≤ 100000) (hi : (i : Int) < t.size) (gE : ((t[i]'(by omega)).toNat : Int) = 101 ∨ (((t[i]'(by omega)).toNat : Int) ≠ 101 ∧ ((t[i]'(by omega)).toNat : Int) = 69)) (u ev : ByteArray) (k2 : Nat) (mi : Bool) (hu : (u.size : Int) ≤ 100000) (S2 : ∀ w, Calls Try.prog 41 #[.string (t.extract (i + 1) t.size)] w fun e w' => e = .returned (.tuple #[.string u, .bool mi]) ∧ Below w.heap.size w w') (R3 : ∀ w, Calls Try.prog 44 #[.string u, .int .i64 0] w fun e w' => e = .returned (.tuple #[.string ev, .int .i64 k2]) ∧ w' = w) (q1 : (k2 : Int) = u.size) (q2 : ¬ (k2 : Int) < 1) (q3 : ¬ (9 : Int) < k2) (hev : ev.data.toList = u.data.toList) (hud : u.data.toList.all isD = true) (hmi : mi = true) (hda : (wh ++ pt).data.toList.all isD = true) (hd0 : 0 < (wh ++ pt).size) (hds : (wh ++ pt).size ≤ 20000) (hps : (pt.size : Int) ≤ 100000) :
    Calls Try.prog 27 #[.string s] w fun e w' => e = .returned (.tuple #[numV ng (valD (wh ++ pt).data.toList) (-(valD u.data.toList : Int) - (pt.size : Int)), .bool true]) ∧ Below w.heap.size w w' := by
  have hkb : (k : Int) ≤ 100000 := by omega
  have hib : (i : Int) ≤ 100000 := by omega
  have hi1 : (i : Int) + 1 ≤ t.size := by omega
  subst hmi
  have HX : Hid (∀ (jj : Nat) (n : Int), jj < k2 → ∀ h : jj < ev.size, n = (valD (u.data.toList.take jj) : Int) → 48 ≤ (ev[jj].toNat : Int) ∧ (ev[jj].toNat : Int) ≤ 57 ∧ (0 ≤ n * 10 + (ev[jj].toNat : Int) - 48 ∧ n * 10 + (ev[jj].toNat : Int) - 48 ≤ 999999999) ∧ n * 10 + (ev[jj].toNat : Int) - 48 = (valD (u.data.toList.take (jj + 1)) : Int)) := fun jj n h1 h2 h3 => exp_step hev hud (by omega) h2 h3
  have hes : ev.size = u.size := by rw [Lib.size_eq, hev, ← Lib.size_eq]
  have hvr := exp_bound hud (show u.size ≤ 9 by omega)
  have TD := fun w => tidy_any ng (wh ++ pt) (-(valD u.data.toList : Int) - (pt.size : Int)) w hda hd0 hds (by omega) (by omega)
  have A := fun w => run_string_add_sum (P := Try.prog) w wh pt (by omega)
  clear hda hd0 hds hvr hud hev
  generalize (wh ++ pt) = cc at A TD ⊢
  obtain ⟨VV, hVV⟩ : ∃ V, valD cc.data.toList = V := ⟨_, rfl⟩
  rw [hVV] at TD ⊢
  clear hVV
  rcases gE with g1 | ⟨g0, g1⟩
  · go_enter Try.func27, Try.ntmps27
    go_wp2_with fail
    refine (S _).mono ?_
    rintro e w1 ⟨rfl, hB1⟩
    rw [size1] at hB1
    clear S
    go_wp2_with fail
    refine (R1 _).mono ?_
    rintro e w1 ⟨rfl, rfl⟩
    go_wp2_with fail
    refine (R2 _).mono ?_
    rintro e w1 ⟨rfl, rfl⟩
    go_wp2_with fail
    refine (S2 _).mono ?_
    rintro e w2 ⟨rfl, hB2⟩
    have hBB : Below (w.heap.size + 1) (w.alloc zC) w2 := hB1.trans (hB2.mono (by have := hB1.size; rw [size1] at this; omega))
    clear hB2 S2
    go_wp2_with fail
    refine (R3 _).mono ?_
    rintro e w2 ⟨rfl, rfl⟩
    clear R3
    go_wp2
    go_loop [9, 14] (fun v j => ∃ (n : Int) (jj : Nat), jj ≤ k2 ∧ v = .int .i64 n ∧ j = .int .i64 jj ∧ 0 ≤ n ∧ n ≤ 999999999 ∧ Hid (n = (valD (u.data.toList.take jj) : Int))) (fun _ j => k2 - (intOf j).toNat)
    case atStart => exact ⟨0, 0, Nat.zero_le _, rfl, rfl, by decide, by decide, rfl⟩
    case round =>
      obtain ⟨n, jj, hj, rfl, rfl, hn0, hn1, HN⟩ := hrel
      by_cases hlt : jj < k2
      · have hl : (jj : Int) < k2 := by omega
        have hev2 : jj < ev.size := by omega
        have hevi : (jj : Int) < ev.size := by omega
        obtain ⟨d1, d2, d3, d4⟩ := HX.out jj n hlt hev2 HN.out
        have HN2 : Hid (n * 10 + (ev[jj].toNat : Int) - 48 = (valD (u.data.toList.take (jj + 1)) : Int)) := d4
        have HW : Hid (wrap64 (wrap64 (n * 10 + wrap64 (ev[jj].toNat : Int)) - 48) = n * 10 + (ev[jj].toNat : Int) - 48) := wrap3 n _ hn0 hn1 d1 d2
        have HD3 : Hid (0 ≤ n * 10 + (ev[jj].toNat : Int) - 48 ∧ n * 10 + (ev[jj].toNat : Int) - 48 ≤ 999999999) := d3
        clear d1 d2 d3 d4
        go_wp2
        go_round
        case rel =>
          refine ⟨_, jj + 1, by omega, rfl, by go_num, ?_⟩
          rw [HW.out]
          exact ⟨HD3.out.1, HD3.out.2, HN2⟩
        case measure => simp [intOf] <;> omega
      · obtain rfl : jj = k2 := by omega
        have hnv : n = (valD u.data.toList : Int) := by
          have h := HN.out
          rwa [List.take_of_length_le (by rw [← Lib.size_eq]; omega)] at h
        rw [← hnv] at TD
        have HNV : Hid (n = (valD u.data.toList : Int)) := hnv
        clear hnv HN HX
        go_wp2_with fail
        refine (TD _).mono ?_
        rintro e w3 ⟨rfl, hB3⟩
        have hBD : Below (w.heap.size + 1) (w.alloc zC) w3 := hBB.trans (hB3.mono (by have := hBB.size; rw [size1] at this; omega))
        obtain ⟨r0, r1, r2, r3, f0, f1, f2, f3⟩ := res_cells hBD
        have hw := zC_below hBD
        obtain ⟨D, E, hV⟩ := numV_form ng VV (-n - (pt.size : Int))
        rw [hV]
        have HV : Hid _ := hV
        clear hV TD A
        go_wp2
        exact bodyPost_ret (v := .tuple #[.agg #[.bool ng, .string D, .int .i64 E, .int .i64 0], .bool true]) (put4_results2 Try.results27 rfl rfl r0 r1 r2 r3 _ _ _ _) rfl ⟨by rw [← HNV.out, HV.out], put4_below hw (Nat.le_refl _) _ _ _ _⟩
  · have g0' : (((t[i]'(by omega)).toNat : Int) == 101) = false := beq_false_of_ne g0
    clear g0
    go_enter Try.func27, Try.ntmps27
    go_wp2_with fail
    refine (S _).mono ?_
    rintro e w1 ⟨rfl, hB1⟩
    rw [size1] at hB1
    clear S
    go_wp2_with fail
    refine (R1 _).mono ?_
    rintro e w1 ⟨rfl, rfl⟩
    go_wp2_with fail
    refine (R2 _).mono ?_
    rintro e w1 ⟨rfl, rfl⟩
    go_wp2_with fail
    refine (S2 _).mono ?_
    rintro e w2 ⟨rfl, hB2⟩
    have hBB : Below (w.heap.size + 1) (w.alloc zC) w2 := hB1.trans (hB2.mono (by have := hB1.size; rw [size1] at this; omega))
    clear hB2 S2
    go_wp2_with fail
    refine (R3 _).mono ?_
    rintro e w2 ⟨rfl, rfl⟩
    clear R3
    go_wp2
    go_loop [9, 14] (fun v j => ∃ (n : Int) (jj : Nat), jj ≤ k2 ∧ v = .int .i64 n ∧ j = .int .i64 jj ∧ 0 ≤ n ∧ n ≤ 999999999 ∧ Hid (n = (valD (u.data.toList.take jj) : Int))) (fun _ j => k2 - (intOf j).toNat)
    case atStart => exact ⟨0, 0, Nat.zero_le _, rfl, rfl, by decide, by decide, rfl⟩
    case round =>
      obtain ⟨n, jj, hj, rfl, rfl, hn0, hn1, HN⟩ := hrel
      by_cases hlt : jj < k2
      · have hl : (jj : Int) < k2 := by omega
        have hev2 : jj < ev.size := by omega
        have hevi : (jj : Int) < ev.size := by omega
        obtain ⟨d1, d2, d3, d4⟩ := HX.out jj n hlt hev2 HN.out
        have HN2 : Hid (n * 10 + (ev[jj].toNat : Int) - 48 = (valD (u.data.toList.take (jj + 1)) : Int)) := d4
        have HW : Hid (wrap64 (wrap64 (n * 10 + wrap64 (ev[jj].toNat : Int)) - 48) = n * 10 + (ev[jj].toNat : Int) - 48) := wrap3 n _ hn0 hn1 d1 d2
        have HD3 : Hid (0 ≤ n * 10 + (ev[jj].toNat : Int) - 48 ∧ n * 10 + (ev[jj].toNat : Int) - 48 ≤ 999999999) := d3
        clear d1 d2 d3 d4
        go_wp2
        go_round
        case rel =>
          refine ⟨_, jj + 1, by omega, rfl, by go_num, ?_⟩
          rw [HW.out]
          exact ⟨HD3.out.1, HD3.out.2, HN2⟩
        case measure => simp [intOf] <;> omega
      · obtain rfl : jj = k2 := by omega
        have hnv : n = (valD u.data.toList : Int) := by
          have h := HN.out
          rwa [List.take_of_length_le (by rw [← Lib.size_eq]; omega)] at h
        rw [← hnv] at TD
        have HNV : Hid (n = (valD u.data.toList : Int)) := hnv
        clear hnv HN HX
        go_wp2_with fail
        refine (TD _).mono ?_
        rintro e w3 ⟨rfl, hB3⟩
        have hBD : Below (w.heap.size + 1) (w.alloc zC) w3 := hBB.trans (hB3.mono (by have := hBB.size; rw [size1] at this; omega))
        obtain ⟨r0, r1, r2, r3, f0, f1, f2, f3⟩ := res_cells hBD
        have hw := zC_below hBD
        obtain ⟨D, E, hV⟩ := numV_form ng VV (-n - (pt.size : Int))
        rw [hV]
        have HV : Hid _ := hV
        clear hV TD A
        go_wp2
        exact bodyPost_ret (v := .tuple #[.agg #[.bool ng, .string D, .int .i64 E, .int .i64 0], .bool true]) (put4_results2 Try.results27 rfl rfl r0 r1 r2 r3 _ _ _ _) rfl ⟨by rw [← HNV.out, HV.out], put4_below hw (Nat.le_refl _) _ _ _ _⟩

end Go.Proofs.Ytpffegkckejpiaa
