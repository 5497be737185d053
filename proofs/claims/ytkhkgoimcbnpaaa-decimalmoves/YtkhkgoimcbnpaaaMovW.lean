/- DecimalMoves' walk. -/
import Derived.Test.YtkhkgoimcbnpaaaMovF
import Derived.Deep.RegionHeld3
set_option linter.unusedVariables false
set_option linter.unusedSimpArgs false
namespace Go.Proofs.Ytkhkgoimcbnpaaa
open Go.RowKit

/-- Four cells that the call has made lie as they lay. -/
theorem res_at {V W : World} {B g : Nat} {c0 c1 c2 c3 : Value} (hB : Below B V W) (hg : g < B)
    (h : V.cell? ⟨g, 0, none⟩ = some c0 ∧ V.cell? ⟨g, 1, none⟩ = some c1 ∧ V.cell? ⟨g, 2, none⟩ = some c2 ∧ V.cell? ⟨g, 3, none⟩ = some c3 ∧ V.frozen? ⟨g, 0, none⟩ = false ∧ V.frozen? ⟨g, 1, none⟩ = false ∧ V.frozen? ⟨g, 2, none⟩ = false ∧ V.frozen? ⟨g, 3, none⟩ = false) :
    W.cell? ⟨g, 0, none⟩ = some c0 ∧ W.cell? ⟨g, 1, none⟩ = some c1 ∧ W.cell? ⟨g, 2, none⟩ = some c2 ∧ W.cell? ⟨g, 3, none⟩ = some c3 ∧ W.frozen? ⟨g, 0, none⟩ = false ∧ W.frozen? ⟨g, 1, none⟩ = false ∧ W.frozen? ⟨g, 2, none⟩ = false ∧ W.frozen? ⟨g, 3, none⟩ = false := by
  have hb : ∀ i, (⟨g, i, none⟩ : Addr).block < B := fun _ => hg
  rw [hB.cell (hb 0), hB.cell (hb 1), hB.cell (hb 2), hB.cell (hb 3), hB.frozen (hb 0), hB.frozen (hb 1), hB.frozen (hb 2), hB.frozen (hb 3)]
  exact h
theorem put4_cells {W : World} {g : Nat} {a0 a1 a2 a3 c0 c1 c2 c3 : Value} (D : ByteArray) (E : Int)
    (k0 : W.cell? ⟨g, 0, none⟩ = some a0) (k1 : W.cell? ⟨g, 1, none⟩ = some a1) (k2 : W.cell? ⟨g, 2, none⟩ = some a2) (k3 : W.cell? ⟨g, 3, none⟩ = some a3)
    (m0 : W.cell? ⟨g + 1, 0, none⟩ = some c0) (m1 : W.cell? ⟨g + 1, 1, none⟩ = some c1) (m2 : W.cell? ⟨g + 1, 2, none⟩ = some c2) (m3 : W.cell? ⟨g + 1, 3, none⟩ = some c3) :
    (put4 W (g + 1) (.bool false) (.string D) (.int .i64 E) (.int .i64 0)).cell? ⟨g, 0, none⟩ = some a0 ∧ (put4 W (g + 1) (.bool false) (.string D) (.int .i64 E) (.int .i64 0)).cell? ⟨g, 1, none⟩ = some a1 ∧
    (put4 W (g + 1) (.bool false) (.string D) (.int .i64 E) (.int .i64 0)).cell? ⟨g, 2, none⟩ = some a2 ∧ (put4 W (g + 1) (.bool false) (.string D) (.int .i64 E) (.int .i64 0)).cell? ⟨g, 3, none⟩ = some a3 ∧
    (put4 W (g + 1) (.bool false) (.string D) (.int .i64 E) (.int .i64 0)).cell? ⟨g + 1, 0, none⟩ = some (.bool false) ∧ (put4 W (g + 1) (.bool false) (.string D) (.int .i64 E) (.int .i64 0)).cell? ⟨g + 1, 1, none⟩ = some (.string D) ∧
    (put4 W (g + 1) (.bool false) (.string D) (.int .i64 E) (.int .i64 0)).cell? ⟨g + 1, 2, none⟩ = some (.int .i64 E) ∧ (put4 W (g + 1) (.bool false) (.string D) (.int .i64 E) (.int .i64 0)).cell? ⟨g + 1, 3, none⟩ = some (.int .i64 0) := by
  unfold put4
  simp [go_sem, k0, k1, k2, k3, m0, m1, m2, m3]
def allT (t : ByteArray) (k : Nat) : Prop := (t.data.toList.take k).all isD = true
set_option maxRecDepth 100000 in
set_option maxHeartbeats 1000000 in
theorem moves_walk (a p : ByteArray) (x : Int) (by_ : Nat) (w : World) (h1 : 1 ≤ a.size) (h2 : a.size ≤ 30) (h3 : p.size ≤ 30) (h4 : -100000 ≤ x) (h5 : x ≤ 100000) (h6 : by_ ≤ p.size) :
    Calls Try.prog 5 #[.string a, .string p, .int .i64 x, .int .i64 by_] w fun e w' => e = .returned (.bool true) ∧ Below w.heap.size w w' := by
  have i1 : ¬ (a.size : Int) < 1 := by omega
  have i2 : ¬ (30 : Int) < a.size := by omega
  have i3 : ¬ (30 : Int) < p.size := by omega
  have i4 : ¬ x < -100000 := by omega
  have i5 : ¬ 100000 < x := by omega
  have i6 : ¬ (by_ : Int) < 0 := by omega
  have i7 : ¬ (p.size : Int) < by_ := by omega
  have A0 : ∀ w, (Op.stringOp .add a p).run Try.prog w = .ok (.string (a ++ p)) w := fun w => run_string_add_sum (P := Try.prog) w a p (by omega)
  have hts : (a ++ p).size = a.size + p.size := ByteArray.size_append
  have hall : (a ++ p).data.toList.all isD = true → a.data.toList.all isD = true ∧ p.data.toList.all isD = true := by
    intro h
    rw [app_list, List.all_append, Bool.and_eq_true] at h
    exact h
  have HALL : Hid ((a ++ p).data.toList.all isD = true → a.data.toList.all isD = true ∧ p.data.toList.all isD = true) := hall
  clear hall
  generalize ht : a ++ p = t at *
  have htz : t.size ≤ 60 := by omega
  clear ht hts
  go_enter Try.func5, Try.ntmps5
  go_wp2_with fail
  refine (alive_any _).mono ?_
  rintro e w1 ⟨rfl, hB1⟩
  go_wp2
  go_loop [11] (fun v => ∃ (k : Nat), k ≤ t.size ∧ v = .int .i64 k ∧ Hid (allT t k)) (fun v => t.size - (intOf v).toNat)
  case atStart => exact ⟨0, Nat.zero_le _, rfl, rfl⟩
  case round =>
    obtain ⟨k, hk, rfl, HK⟩ := hrel
    by_cases hlt : k < t.size
    · have hl : (k : Int) < t.size := by omega
      by_cases hD : isD t[k] = true
      · have hD' := isD_iff.1 hD
        have g1 := hD'.1
        have g2 := hD'.2
        have HK2 : Hid (allT t (k + 1)) := by
          show (t.data.toList.take (k + 1)).all isD = true
          have h := HK.out
          unfold allT at h
          rw [byte_take t k hlt, List.all_append, h, List.all_cons, hD]; rfl
        clear hD hD' A0
        go_wp2
        go_round
        case rel => exact ⟨k + 1, by omega, by go_num, HK2⟩
        case measure => simp [intOf] <;> omega
      · have hD' : ¬ (48 ≤ (t[k].toNat : Int) ∧ (t[k].toNat : Int) ≤ 57) := fun h => hD (isD_iff.2 h)
        have hc : (t[k].toNat : Int) < 48 ∨ (¬ (t[k].toNat : Int) < 48 ∧ (57 : Int) < t[k].toNat) := by omega
        clear hD hD' A0
        rcases hc with g1 | ⟨g1, g2⟩
        all_goals
          go_wp2
          go_ret
          exact ⟨rfl, hB1⟩
    · obtain rfl : k = t.size := by omega
      have hat : t.data.toList.all isD = true := by have h := HK.out; unfold allT at h; rwa [List.take_of_length_le (by simp)] at h
      obtain ⟨ha, hp⟩ := HALL.out hat
      obtain ⟨D, E, hV, RT⟩ := moves_num a p x ha hp h1 h2 h3 h4 h5
      obtain ⟨b1, b2, b3, b4, ix, B1, B2, B3, B4, I1, F1⟩ := moves_first a p x D E ha hp h1 h2 h3 h4 h5 hV
      obtain ⟨c1, c2, c3, c4, c5, iy, C1, C2, C3, C4, C5, I2, F2⟩ := moves_second a p x by_ D E ha hp h1 h2 h3 h4 h5 h6 hV
      clear hV
      have hwr : IntKind.i64.wrap (x - (by_ : Int)) = x - by_ := by
        rw [IntKind.wrap_i64]; omega
      rw [← hwr] at I2
      clear HK HALL hat ha hp hwr
      go_wp2_with fail
      refine (I1 _).mono ?_
      rintro e w1 ⟨rfl, rfl⟩
      go_wp2_with fail
      refine (F1 _).mono ?_
      rintro e w2 ⟨rfl, hB2⟩
      have hw2 : Below w.heap.size w w2 := hB1.trans (hB2.mono hB1.size)
      clear hB2 F1 I1 B1 B2 B3 B4
      have j1 : (by_ : Int) ≤ p.size := by omega
      have j2 : (0 : Int) ≤ by_ := by omega
      go_wp2_with fail
      go_region_held3 (fun _ => True) (trivial) (first | (go_at_call 13; refine (I2 _).mono ?_; rintro e w' ⟨rfl, rfl⟩) | (go_at_call 10; refine (F2 _).mono ?_; rintro e w4 ⟨rfl, hB4⟩; have q0 := fun (i : Nat) h => hB4.cell (p := ⟨w2.heap.size + 1, i, none⟩) h; have q1 := fun (i : Nat) h => hB4.frozen (p := ⟨w2.heap.size + 1, i, none⟩) h))
      · clear q0 q1 F2 I2 C1 C2 C3 C4 C5
        have hz2 := hw2.size
        have hz4 := hB4.size
        have hw4 : Below w.heap.size w w4 := ((hw2.alloc hz2 _).drew).trans (hB4.mono (by simp; omega))
        have hlt4 : w2.heap.size < w4.heap.size := by simp at hz4; omega
        have k0 : w4.cell? ⟨w2.heap.size, 0, none⟩ = some (.bool false) := by rw [hB4.cell (by simp <;> omega)]; simp
        have k1 : w4.cell? ⟨w2.heap.size, 1, none⟩ = some (.string D) := by rw [hB4.cell (by simp <;> omega)]; simp
        have k2 : w4.cell? ⟨w2.heap.size, 2, none⟩ = some (.int .i64 E) := by rw [hB4.cell (by simp <;> omega)]; simp
        have k3 : w4.cell? ⟨w2.heap.size, 3, none⟩ = some (.int .i64 0) := by rw [hB4.cell (by simp <;> omega)]; simp
        have hA : ∀ o, Below w4.heap.size w4 (w4.alloc o) := fun o => (Below.refl _ w4).alloc (Nat.le_refl _) _
        have n0 : ∀ o, (w4.alloc o).cell? ⟨w2.heap.size, 0, none⟩ = some (.bool false) := fun o => ((hA o).cell (p := ⟨w2.heap.size, 0, none⟩) hlt4).trans k0
        have n1 : ∀ o, (w4.alloc o).cell? ⟨w2.heap.size, 1, none⟩ = some (.string D) := fun o => ((hA o).cell (p := ⟨w2.heap.size, 1, none⟩) hlt4).trans k1
        have n2 : ∀ o, (w4.alloc o).cell? ⟨w2.heap.size, 2, none⟩ = some (.int .i64 E) := fun o => ((hA o).cell (p := ⟨w2.heap.size, 2, none⟩) hlt4).trans k2
        have n3 : ∀ o, (w4.alloc o).cell? ⟨w2.heap.size, 3, none⟩ = some (.int .i64 0) := fun o => ((hA o).cell (p := ⟨w2.heap.size, 3, none⟩) hlt4).trans k3
        clear hB4 hA k0 k1 k2 k3
        go_wp2_with fail
        refine (RT _).mono ?_
        rintro e w5 ⟨rfl, hB5⟩
        go_wp2
        go_ret
        exact ⟨rfl, (hw4.alloc hw4.size _).trans (hB5.mono (by have := hw4.size; simp; omega))⟩
      · clear q0 q1 F2 I2 C1 C2 C3 C4 C5
        have hz2 := hw2.size
        have hz4 := hB4.size
        have hw4 : Below w.heap.size w w4 := ((((hw2.alloc hz2 _).alloc (by simp; omega) _)).drew).trans (hB4.mono (by simp; omega))
        have k0 : w4.cell? ⟨w2.heap.size, 0, none⟩ = some (.bool false) := by rw [hB4.cell (by simp <;> omega)]; simp
        have k1 : w4.cell? ⟨w2.heap.size, 1, none⟩ = some (.string D) := by rw [hB4.cell (by simp <;> omega)]; simp
        have k2 : w4.cell? ⟨w2.heap.size, 2, none⟩ = some (.int .i64 E) := by rw [hB4.cell (by simp <;> omega)]; simp
        have k3 : w4.cell? ⟨w2.heap.size, 3, none⟩ = some (.int .i64 0) := by rw [hB4.cell (by simp <;> omega)]; simp
        have m0 : w4.cell? ⟨w2.heap.size + 1, 0, none⟩ = some (.bool false) := by rw [hB4.cell (by simp)]; simp
        have m1 : w4.cell? ⟨w2.heap.size + 1, 1, none⟩ = some (.string ⟨#[]⟩) := by rw [hB4.cell (by simp)]; simp
        have m2 : w4.cell? ⟨w2.heap.size + 1, 2, none⟩ = some (.int .i64 0) := by rw [hB4.cell (by simp)]; simp
        have m3 : w4.cell? ⟨w2.heap.size + 1, 3, none⟩ = some (.int .i64 0) := by rw [hB4.cell (by simp)]; simp
        have hw5 := put4_below (b0 := .bool false) (b1 := .string D) (b2 := .int .i64 E) (b3 := .int .i64 0) hw4 (show w.heap.size ≤ w2.heap.size + 1 by omega)
        obtain ⟨j0, j1', j2', j3, l0, l1, l2, l3⟩ := put4_cells D E k0 k1 k2 k3 m0 m1 m2 m3
        unfold put4 at hw5 j0 j1' j2' j3 l0 l1 l2 l3
        clear hB4 k0 k1 k2 k3 m0 m1 m2 m3
        generalize (((w4.setCell ⟨w2.heap.size + 1, 0, none⟩ (.bool false)).setCell ⟨w2.heap.size + 1, 1, none⟩ (.string D)).setCell ⟨w2.heap.size + 1, 2, none⟩ (.int .i64 E)).setCell ⟨w2.heap.size + 1, 3, none⟩ (.int .i64 0) = W5 at hw5 j0 j1' j2' j3 l0 l1 l2 l3 ⊢
        go_wp2_with fail
        refine (RT _).mono ?_
        rintro e w6 ⟨rfl, hB5⟩
        go_wp2
        go_ret
        exact ⟨rfl, hw5.trans (hB5.mono hw5.size)⟩
      · clear q0 q1 F2 I2 C1 C2 C3 C4 C5
        have hz2 := hw2.size
        have hz4 := hB4.size
        have hw4 : Below w.heap.size w w4 := ((((hw2.alloc hz2 _).alloc (by simp; omega) _)).drew).trans (hB4.mono (by simp; omega))
        have k0 : w4.cell? ⟨w2.heap.size, 0, none⟩ = some (.bool false) := by rw [hB4.cell (by simp <;> omega)]; simp
        have k1 : w4.cell? ⟨w2.heap.size, 1, none⟩ = some (.string D) := by rw [hB4.cell (by simp <;> omega)]; simp
        have k2 : w4.cell? ⟨w2.heap.size, 2, none⟩ = some (.int .i64 E) := by rw [hB4.cell (by simp <;> omega)]; simp
        have k3 : w4.cell? ⟨w2.heap.size, 3, none⟩ = some (.int .i64 0) := by rw [hB4.cell (by simp <;> omega)]; simp
        have m0 : w4.cell? ⟨w2.heap.size + 1, 0, none⟩ = some (.bool false) := by rw [hB4.cell (by simp)]; simp
        have m1 : w4.cell? ⟨w2.heap.size + 1, 1, none⟩ = some (.string ⟨#[]⟩) := by rw [hB4.cell (by simp)]; simp
        have m2 : w4.cell? ⟨w2.heap.size + 1, 2, none⟩ = some (.int .i64 0) := by rw [hB4.cell (by simp)]; simp
        have m3 : w4.cell? ⟨w2.heap.size + 1, 3, none⟩ = some (.int .i64 0) := by rw [hB4.cell (by simp)]; simp
        have hw5 := put4_below (b0 := .bool false) (b1 := .string D) (b2 := .int .i64 E) (b3 := .int .i64 0) hw4 (show w.heap.size ≤ w2.heap.size + 1 by omega)
        obtain ⟨j0, j1', j2', j3, l0, l1, l2, l3⟩ := put4_cells D E k0 k1 k2 k3 m0 m1 m2 m3
        unfold put4 at hw5 j0 j1' j2' j3 l0 l1 l2 l3
        clear hB4 k0 k1 k2 k3 m0 m1 m2 m3
        generalize (((w4.setCell ⟨w2.heap.size + 1, 0, none⟩ (.bool false)).setCell ⟨w2.heap.size + 1, 1, none⟩ (.string D)).setCell ⟨w2.heap.size + 1, 2, none⟩ (.int .i64 E)).setCell ⟨w2.heap.size + 1, 3, none⟩ (.int .i64 0) = W5 at hw5 j0 j1' j2' j3 l0 l1 l2 l3 ⊢
        go_wp2_with fail
        refine (RT _).mono ?_
        rintro e w6 ⟨rfl, hB5⟩
        go_wp2
        go_ret
        exact ⟨rfl, hw5.trans (hB5.mono hw5.size)⟩
end Go.Proofs.Ytkhkgoimcbnpaaa
