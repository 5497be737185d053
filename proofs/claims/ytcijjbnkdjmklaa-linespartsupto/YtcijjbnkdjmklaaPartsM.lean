/- LinesParts' ways out behind the ends. -/
import Derived.Test.YtcijjbnkdjmklaaPartsS
set_option linter.unusedVariables false
set_option linter.unusedSimpArgs false
namespace Go.Proofs.Ytcijjbnkdjmklaa
open Go.RowKit Go.Shelf

set_option maxRecDepth 100000 in
set_option maxHeartbeats 4000000 in
theorem parts_m1 (p q : Option Addr) (a b : List Int) (c1 c2 : Nat) (which : Int) (XA XB : List (Nat × List Int)) (w : World) (h1 : Is w p a) (h2 : Is w q b)
    (F1 : ∀ w2, Is w2 p a → Calls Try.prog 9 #[.slice p a.length c1] w2 fun e w' => ∃ v, e = .returned (.tuple #[v, .int .i64 0]) ∧ Below w2.heap.size w2 w' ∧ Rws w' w2.heap.size v XA)
    (F2 : ∀ w2, Is w2 q b → Calls Try.prog 9 #[.slice q b.length c2] w2 fun e w' => ∃ v, e = .returned (.tuple #[v, .int .i64 0]) ∧ Below w2.heap.size w2 w' ∧ Rws w' w2.heap.size v XB)
    (hna : a.length ≤ 300) (hnb : b.length ≤ 300) (t1 : decide (300 < (a.length : Int)) = false) (t2 : decide (300 < (b.length : Int)) = false) (k0 : ¬ which < 0) (k2 : ¬ 2 < which) (t3 : ((a.length : Int) == 0) = true) :
    Calls Try.prog 5 #[.slice p a.length c1, .slice q b.length c2, .int .i64 which] w fun e w' => e = .returned (.bool true) ∧ Below w.heap.size w w' := by
  go_enter Try.func5, Try.ntmps5
  go_wp2_with (first | (go_at_call 7; refine (alive_any _).mono ?_; rintro e W ⟨rfl, hB⟩; have hIa := h1.on hB) | fail)
  refine (F1 _ hIa).mono ?_
  rintro e W1 ⟨xv, rfl, hb1, hr1⟩
  have hB1 := hB.trans (hb1.mono hB.size)
  have hIb := h2.on hB1
  obtain ⟨xa, xc, rfl, -, -, -, -⟩ := hr1.read
  go_wp2_with fail
  refine (F2 _ hIb).mono ?_
  rintro e W2 ⟨yv, rfl, hb2, hr2⟩
  have hB2 := hB1.trans (hb2.mono hB1.size)
  obtain ⟨ya, yc, rfl, -, -, -, -⟩ := hr2.read
  clear F1 F2 hIa hIb hr1 hr2
  go_upto_region 8 with fail
  have hE := endsW_below W2
  have hI3 := h1.on (hB2.trans (hE.mono hB2.size))
  have hI3b := h2.on (hB2.trans (hE.mono hB2.size))
  have hB3 := hB2.trans (hE.mono hB2.size)
  change Code.wp _ _ _ _ (endsW W2)
  generalize endsW W2 = W3 at hE hI3 hI3b hB3 ⊢
  go_wp2
  go_ret
  exact ⟨rfl, hB3⟩

set_option maxRecDepth 100000 in
set_option maxHeartbeats 4000000 in
theorem parts_m2 (p q : Option Addr) (a b : List Int) (c1 c2 : Nat) (which : Int) (XA XB : List (Nat × List Int)) (w : World) (h1 : Is w p a) (h2 : Is w q b)
    (F1 : ∀ w2, Is w2 p a → Calls Try.prog 9 #[.slice p a.length c1] w2 fun e w' => ∃ v, e = .returned (.tuple #[v, .int .i64 0]) ∧ Below w2.heap.size w2 w' ∧ Rws w' w2.heap.size v XA)
    (F2 : ∀ w2, Is w2 q b → Calls Try.prog 9 #[.slice q b.length c2] w2 fun e w' => ∃ v, e = .returned (.tuple #[v, .int .i64 0]) ∧ Below w2.heap.size w2 w' ∧ Rws w' w2.heap.size v XB)
    (hna : a.length ≤ 300) (hnb : b.length ≤ 300) (t1 : decide (300 < (a.length : Int)) = false) (t2 : decide (300 < (b.length : Int)) = false) (k0 : ¬ which < 0) (k2 : ¬ 2 < which) (t3 : ((a.length : Int) == 0) = false) (hn : 0 < a.length) (hx : iAt a (a.length - 1) = 10) :
    Calls Try.prog 5 #[.slice p a.length c1, .slice q b.length c2, .int .i64 which] w fun e w' => e = .returned (.bool true) ∧ Below w.heap.size w w' := by
  go_enter Try.func5, Try.ntmps5
  go_wp2_with (first | (go_at_call 7; refine (alive_any _).mono ?_; rintro e W ⟨rfl, hB⟩; have hIa := h1.on hB) | fail)
  refine (F1 _ hIa).mono ?_
  rintro e W1 ⟨xv, rfl, hb1, hr1⟩
  have hB1 := hB.trans (hb1.mono hB.size)
  have hIb := h2.on hB1
  obtain ⟨xa, xc, rfl, -, -, -, -⟩ := hr1.read
  go_wp2_with fail
  refine (F2 _ hIb).mono ?_
  rintro e W2 ⟨yv, rfl, hb2, hr2⟩
  have hB2 := hB1.trans (hb2.mono hB1.size)
  obtain ⟨ya, yc, rfl, -, -, -, -⟩ := hr2.read
  clear F1 F2 hIa hIb hr1 hr2
  go_upto_region 8 with fail
  have hE := endsW_below W2
  have hI3 := h1.on (hB2.trans (hE.mono hB2.size))
  have hI3b := h2.on (hB2.trans (hE.mono hB2.size))
  have hB3 := hB2.trans (hE.mono hB2.size)
  change Code.wp _ _ _ _ (endsW W2)
  generalize endsW W2 = W3 at hE hI3 hI3b hB3 ⊢
  obtain ⟨ab, ao, rfl, hac⟩ := hI3.at hn
  have c0 := hac (a.length - 1) (by omega)
  rw [hx] at c0
  have hli : ((a.length : Int) - 1) = ((a.length - 1 : Nat) : Int) := by omega
  have hnl : ((a.length - 1 : Nat) : Int) < a.length := by omega
  clear hac
  go_wp2
  go_ret
  exact ⟨rfl, hB3⟩

set_option maxRecDepth 100000 in
set_option maxHeartbeats 4000000 in
theorem parts_m3 (p q : Option Addr) (a b : List Int) (c1 c2 : Nat) (which : Int) (XA XB : List (Nat × List Int)) (w : World) (h1 : Is w p a) (h2 : Is w q b)
    (F1 : ∀ w2, Is w2 p a → Calls Try.prog 9 #[.slice p a.length c1] w2 fun e w' => ∃ v, e = .returned (.tuple #[v, .int .i64 0]) ∧ Below w2.heap.size w2 w' ∧ Rws w' w2.heap.size v XA)
    (F2 : ∀ w2, Is w2 q b → Calls Try.prog 9 #[.slice q b.length c2] w2 fun e w' => ∃ v, e = .returned (.tuple #[v, .int .i64 0]) ∧ Below w2.heap.size w2 w' ∧ Rws w' w2.heap.size v XB)
    (hna : a.length ≤ 300) (hnb : b.length ≤ 300) (t1 : decide (300 < (a.length : Int)) = false) (t2 : decide (300 < (b.length : Int)) = false) (k0 : ¬ which < 0) (k2 : ¬ 2 < which) (t3 : ((a.length : Int) == 0) = false) (hn : 0 < a.length) (hx : iAt a (a.length - 1) = 13) :
    Calls Try.prog 5 #[.slice p a.length c1, .slice q b.length c2, .int .i64 which] w fun e w' => e = .returned (.bool true) ∧ Below w.heap.size w w' := by
  go_enter Try.func5, Try.ntmps5
  go_wp2_with (first | (go_at_call 7; refine (alive_any _).mono ?_; rintro e W ⟨rfl, hB⟩; have hIa := h1.on hB) | fail)
  refine (F1 _ hIa).mono ?_
  rintro e W1 ⟨xv, rfl, hb1, hr1⟩
  have hB1 := hB.trans (hb1.mono hB.size)
  have hIb := h2.on hB1
  obtain ⟨xa, xc, rfl, -, -, -, -⟩ := hr1.read
  go_wp2_with fail
  refine (F2 _ hIb).mono ?_
  rintro e W2 ⟨yv, rfl, hb2, hr2⟩
  have hB2 := hB1.trans (hb2.mono hB1.size)
  obtain ⟨ya, yc, rfl, -, -, -, -⟩ := hr2.read
  clear F1 F2 hIa hIb hr1 hr2
  go_upto_region 8 with fail
  have hE := endsW_below W2
  have hI3 := h1.on (hB2.trans (hE.mono hB2.size))
  have hI3b := h2.on (hB2.trans (hE.mono hB2.size))
  have hB3 := hB2.trans (hE.mono hB2.size)
  change Code.wp _ _ _ _ (endsW W2)
  generalize endsW W2 = W3 at hE hI3 hI3b hB3 ⊢
  obtain ⟨ab, ao, rfl, hac⟩ := hI3.at hn
  have c0 := hac (a.length - 1) (by omega)
  rw [hx] at c0
  have hli : ((a.length : Int) - 1) = ((a.length - 1 : Nat) : Int) := by omega
  have hnl : ((a.length - 1 : Nat) : Int) < a.length := by omega
  clear hac
  go_wp2
  go_ret
  exact ⟨rfl, hB3⟩

set_option maxRecDepth 100000 in
set_option maxHeartbeats 4000000 in
theorem parts_m4 (p : Option Addr) (qb qo : Nat) (a b : List Int) (c1 c2 : Nat) (XA XB : List (Nat × List Int)) (w : World) (h1 : Is w p a) (h2 : Is w (some ⟨qb, qo, none⟩) b)
    (F1 : ∀ w2, Is w2 p a → Calls Try.prog 9 #[.slice p a.length c1] w2 fun e w' => ∃ v, e = .returned (.tuple #[v, .int .i64 0]) ∧ Below w2.heap.size w2 w' ∧ Rws w' w2.heap.size v XA)
    (F2 : ∀ w2, Is w2 (some ⟨qb, qo, none⟩) b → Calls Try.prog 9 #[.slice (some ⟨qb, qo, none⟩) b.length c2] w2 fun e w' => ∃ v, e = .returned (.tuple #[v, .int .i64 0]) ∧ Below w2.heap.size w2 w' ∧ Rws w' w2.heap.size v XB)
    (hna : a.length ≤ 300) (hnb : b.length ≤ 300) (t1 : decide (300 < (a.length : Int)) = false) (t2 : decide (300 < (b.length : Int)) = false) (t3 : ((a.length : Int) == 0) = false) (hn : 0 < a.length) (x : Int) (hx : iAt a (a.length - 1) = x) (hx1 : (x == 10) = false) (hx2 : (x == 13) = false) (tb : decide (0 < (b.length : Int)) = true) (hbn : 0 < b.length) (hy : iAt b 0 = 10) :
    Calls Try.prog 5 #[.slice p a.length c1, .slice (some ⟨qb, qo, none⟩) b.length c2, .int .i64 1] w fun e w' => e = .returned (.bool true) ∧ Below w.heap.size w w' := by
  go_enter Try.func5, Try.ntmps5
  go_wp2_with (first | (go_at_call 7; refine (alive_any _).mono ?_; rintro e W ⟨rfl, hB⟩; have hIa := h1.on hB) | fail)
  refine (F1 _ hIa).mono ?_
  rintro e W1 ⟨xv, rfl, hb1, hr1⟩
  have hB1 := hB.trans (hb1.mono hB.size)
  have hIb := h2.on hB1
  obtain ⟨xa, xc, rfl, -, -, -, -⟩ := hr1.read
  go_wp2_with fail
  refine (F2 _ hIb).mono ?_
  rintro e W2 ⟨yv, rfl, hb2, hr2⟩
  have hB2 := hB1.trans (hb2.mono hB1.size)
  obtain ⟨ya, yc, rfl, -, -, -, -⟩ := hr2.read
  clear F1 F2 hIa hIb hr1 hr2
  go_upto_region 8 with fail
  have hE := endsW_below W2
  have hI3 := h1.on (hB2.trans (hE.mono hB2.size))
  have hI3b := h2.on (hB2.trans (hE.mono hB2.size))
  have hB3 := hB2.trans (hE.mono hB2.size)
  change Code.wp _ _ _ _ (endsW W2)
  generalize endsW W2 = W3 at hE hI3 hI3b hB3 ⊢
  obtain ⟨ab, ao, rfl, hac⟩ := hI3.at hn
  have c0 := hac (a.length - 1) (by omega)
  rw [hx] at c0
  have hli : ((a.length : Int) - 1) = ((a.length - 1 : Nat) : Int) := by omega
  have hnl : ((a.length - 1 : Nat) : Int) < a.length := by omega
  clear hac
  obtain ⟨qb', qo', hqe, hbc⟩ := hI3b.at hbn
  cases hqe
  have d0 := hbc 0 hbn
  rw [hy, Nat.add_zero] at d0
  have hbi : (0 : Int) < b.length := by omega
  clear hbc
  go_wp2
  go_ret
  exact ⟨rfl, hB3⟩
end Go.Proofs.Ytcijjbnkdjmklaa
