/- folded, between, spaced, always: what stands between two lines. -/
import Derived.Test.YtgmcomfeggidnaaItr
set_option linter.unusedVariables false
set_option linter.unusedSimpArgs false
namespace Go.Proofs.Ytgmcomfeggidnaa
open Go.RowKit Go.Shelf
attribute [local go_sem] Oper.semAt_some

set_option maxRecDepth 100000 in
set_option maxHeartbeats 1000000 in
theorem folded_in (n : Nat) (e : Int) (w : World) :
    CallsIn Fence.wide n Try.prog 67 #[.int .i64 e] w fun r w' => r = .returned (foldV e) ∧ w.grownBy w' none := by
  refine callsIn_of_wp Try.func67 rfl trivial ?_ rfl
  simp only [Try.ntmps67, List.size_toArray, List.length_cons, List.length_nil, Nat.reduceAdd, Nat.reduceSub, Array.replicate_succ, Array.replicate_zero, List.push_toArray, List.append_toArray, List.nil_append, List.cons_append]
  have z := Try.zeroValue87
  have s := Try.sizeOf87
  by_cases h : e = 0
  · subst h
    gi_wp2
    exact bodyPost_ret (v := foldV 0) (by simp [results, Try.results67, go_sem, foldV]) rfl ⟨rfl, World.grownBy_alloc _ _ none⟩
  · have t : (e == 0) = false := by simpa using h
    gi_wp2
    exact bodyPost_ret (v := foldV e) (by simp [results, Try.results67, go_sem, foldV, h]) rfl ⟨rfl, World.grownBy_alloc _ _ none⟩

set_option maxHeartbeats 1000000 in
theorem always_in (n : Nat) (q : Option Addr) (t : List Int) (c : Nat) (w : World) :
    CallsIn Fence.wide n Try.prog 54 #[.slice q t.length c] w fun e w' => e = .returned (.bool true) ∧ w' = w := by
  refine callsIn_of_wp Try.func54 rfl trivial ?_ rfl
  simp only [Try.ntmps54, List.size_toArray, List.length_cons, List.length_nil, Nat.reduceAdd, Nat.reduceSub, Array.replicate_succ, Array.replicate_zero, List.push_toArray, List.append_toArray, List.nil_append, List.cons_append]
  gi_wp2
  go_ret
  exact ⟨rfl, rfl⟩

def spacedP (t : List Int) : Bool := blankP (iAt t 0)
def alwaysP (t : List Int) : Bool := true

set_option maxHeartbeats 1000000 in
theorem spaced_any (q : Option Addr) (t : List Int) (c : Nat) (w : World) (h : Is w q t) (hl : 0 < t.length) :
    Calls Try.prog 53 #[.slice q t.length c] w fun e w' => e = .returned (.bool (spacedP t)) ∧ w' = w := by
  obtain ⟨b, o, rfl, hc⟩ := h.at hl
  have c0 := hc 0 hl
  rw [Nat.add_zero] at c0
  have hl' : (0 : Int) < t.length := by omega
  unfold spacedP
  generalize iAt t 0 = x at c0 ⊢
  clear hc h
  go_enter Try.func53, Try.ntmps53
  go_wp2_with (go_at_call 30; refine (blank_any _ _).mono ?_; rintro e w' ⟨rfl, rfl⟩)
  go_ret
  exact ⟨rfl, rfl⟩

theorem foldV_form (e : Int) : ∃ x y, foldV e = .agg #[.int .i64 x, .int .i64 y] := by
  unfold foldV
  split
  · exact ⟨_, _, rfl⟩
  · exact ⟨_, _, rfl⟩

theorem grown_after {w w' : World} {o : Obj} (h : (w.alloc o).grownBy w' none) (u v : Value) : w.grownBy ((w'.setCell ⟨w.heap.size, 0, none⟩ u).setCell ⟨w.heap.size, 1, none⟩ v) none := by
  have s0 := h.size
  have s1 := (KeepsWalks.setCell w' ⟨w.heap.size, 0, none⟩ u).size
  have s2 := (KeepsWalks.setCell (w'.setCell ⟨w.heap.size, 0, none⟩ u) ⟨w.heap.size, 1, none⟩ v).size
  simp only [World.size_alloc] at s0
  refine ⟨h.1, h.2, h.3, by omega, fun k hk _ => ?_⟩
  rw [Deep.blk_setCell_other _ _ _ _ (by show k ≠ w.heap.size; omega), Deep.blk_setCell_other _ _ _ _ (by show k ≠ w.heap.size; omega), h.block k (by simp; omega) (by simp)]
  exact Below.heap_alloc w o k hk

/-- The same code point again and again, as a value. -/
def runV (c : Int) (k : Int) : Value := .agg #[.int .i64 c, .int .i64 k]
/-- What stands ahead of the line at place i, behind the one at place b (below 0: there is none). -/
def betV (P : List Int → Bool) (g : Nat → List Int) (b : Int) (i : Nat) : Value :=
  if b < 0 then runV 10 ((i : Int) - b - 1) else if P (g b.toNat) || P (g i) then runV 10 ((i : Int) - b - 1 + 1) else foldV ((i : Int) - b - 1)

set_option maxRecDepth 100000 in
set_option maxHeartbeats 2000000 in
theorem betA_none (p : Option Addr) (R : List Row) (pc : Nat) (i : Nat) (w : World) (hi : i < R.length) (hn : R.length ≤ 1099511627776) :
    Calls Try.prog 61 #[.slice p R.length pc, .int .i64 (-1), .int .i64 i, .func (.func 54) #[] #[]] w fun e w' => e = .returned (betV alwaysP (tAt R) (-1) i) ∧ w.grownBy w' none := by
  have z := Try.zeroValue87
  have s := Try.sizeOf87
  have hv : betV alwaysP (tAt R) (-1) i = runV 10 (i : Int) := by unfold betV; rw [if_pos (by decide)]; congr 1; omega
  rw [hv]
  go_enter Try.func61, Try.ntmps61
  go_wp2
  exact bodyPost_ret (v := runV 10 i) (by simp [results, Try.results61, go_sem, runV] <;> omega) rfl ⟨rfl, World.grownBy_alloc _ _ none⟩

set_option maxRecDepth 100000 in
set_option maxHeartbeats 2000000 in
theorem betA_some (p : Option Addr) (R : List Row) (pc b i : Nat) (rb ri : Row) (w : World) (hM : Mt w p R) (hb : R[b]? = some rb) (hi : R[i]? = some ri) (hrb : 0 < rb.t.length) (hri : 0 < ri.t.length) (hn : R.length ≤ 1099511627776) :
    Calls Try.prog 61 #[.slice p R.length pc, .int .i64 b, .int .i64 i, .func (.func 54) #[] #[]] w fun e w' => e = .returned (betV alwaysP (tAt R) b i) ∧ w.grownBy w' none := by
  have hbl : b < R.length := (List.getElem?_eq_some_iff.1 hb).1
  have hil : i < R.length := (List.getElem?_eq_some_iff.1 hi).1
  have hbl' : (b : Int) < R.length := by omega
  have hil' : (i : Int) < R.length := by omega
  obtain ⟨b0, o0, rfl, hcell⟩ := hM.at (by omega)
  have c0 := hcell b rb hb
  have c1 := hcell i ri hi
  have Ib := (hM.1 b rb hb).2.2
  have Ii := (hM.1 i ri hi).2.2
  have hv : betV alwaysP (tAt R) b i = if alwaysP rb.t || alwaysP ri.t then runV 10 ((i : Int) - b - 1 + 1) else foldV ((i : Int) - b - 1) := by
    unfold betV
    rw [if_neg (by omega), Int.toNat_natCast, tAt_at hb, tAt_at hi]
  rw [hv]
  clear hv hb hi hM hcell
  obtain ⟨q1, t1, k1⟩ := rb
  obtain ⟨q2, t2, k2⟩ := ri
  dsimp only at c0 c1 Ib Ii hrb hri ⊢
  have e0 : ∀ o, (w.alloc o).cell? ⟨b0, o0 + b, none⟩ = some (.slice q1 t1.length k1) := fun o => (((Below.refl _ w).alloc (Nat.le_refl _) o).cell (p := ⟨b0, o0 + b, none⟩) (World.block_lt_of_cell? w _ c0)).trans c0
  have e1 : ∀ o, (w.alloc o).cell? ⟨b0, o0 + i, none⟩ = some (.slice q2 t2.length k2) := fun o => (((Below.refl _ w).alloc (Nat.le_refl _) o).cell (p := ⟨b0, o0 + i, none⟩) (World.block_lt_of_cell? w _ c1)).trans c1
  have hb0 : ¬ (b : Int) < 0 := by omega
  have z := Try.zeroValue87
  have s := Try.sizeOf87
  have F := fun w => (callsIn_wide (n := 3)).1 (folded_in 3 ((i : Int) - b - 1) w)
  have H1 := fun o => (callsIn_wide (n := 3)).1 (always_in 3 q1 t1 k1 (w.alloc o))
  show Calls _ _ _ _ fun e w' => e = .returned (runV 10 ((i : Int) - b - 1 + 1)) ∧ _
  go_enter Try.func61, Try.ntmps61
  go_wp2_with (first | (go_at_call 54; refine (H1 _).mono ?_; rintro e w' ⟨rfl, rfl⟩))
  exact bodyPost_ret (v := runV 10 ((i : Int) - b - 1 + 1)) (by simp [results, Try.results61, go_sem, runV] <;> omega) rfl ⟨rfl, World.grownBy_alloc _ _ none⟩

set_option maxRecDepth 100000 in
set_option maxHeartbeats 2000000 in
theorem betS_none (p : Option Addr) (R : List Row) (pc : Nat) (i : Nat) (w : World) (hi : i < R.length) (hn : R.length ≤ 1099511627776) :
    Calls Try.prog 61 #[.slice p R.length pc, .int .i64 (-1), .int .i64 i, .func (.func 53) #[] #[]] w fun e w' => e = .returned (betV spacedP (tAt R) (-1) i) ∧ w.grownBy w' none := by
  have z := Try.zeroValue87
  have s := Try.sizeOf87
  have hv : betV spacedP (tAt R) (-1) i = runV 10 (i : Int) := by unfold betV; rw [if_pos (by decide)]; congr 1; omega
  rw [hv]
  go_enter Try.func61, Try.ntmps61
  go_wp2
  exact bodyPost_ret (v := runV 10 i) (by simp [results, Try.results61, go_sem, runV] <;> omega) rfl ⟨rfl, World.grownBy_alloc _ _ none⟩

set_option maxRecDepth 100000 in
set_option maxHeartbeats 2000000 in
theorem betS_some (p : Option Addr) (R : List Row) (pc b i : Nat) (rb ri : Row) (w : World) (hM : Mt w p R) (hb : R[b]? = some rb) (hi : R[i]? = some ri) (hrb : 0 < rb.t.length) (hri : 0 < ri.t.length) (hn : R.length ≤ 1099511627776) :
    Calls Try.prog 61 #[.slice p R.length pc, .int .i64 b, .int .i64 i, .func (.func 53) #[] #[]] w fun e w' => e = .returned (betV spacedP (tAt R) b i) ∧ w.grownBy w' none := by
  have hbl : b < R.length := (List.getElem?_eq_some_iff.1 hb).1
  have hil : i < R.length := (List.getElem?_eq_some_iff.1 hi).1
  have hbl' : (b : Int) < R.length := by omega
  have hil' : (i : Int) < R.length := by omega
  obtain ⟨b0, o0, rfl, hcell⟩ := hM.at (by omega)
  have c0 := hcell b rb hb
  have c1 := hcell i ri hi
  have Ib := (hM.1 b rb hb).2.2
  have Ii := (hM.1 i ri hi).2.2
  have hv : betV spacedP (tAt R) b i = if spacedP rb.t || spacedP ri.t then runV 10 ((i : Int) - b - 1 + 1) else foldV ((i : Int) - b - 1) := by
    unfold betV
    rw [if_neg (by omega), Int.toNat_natCast, tAt_at hb, tAt_at hi]
  rw [hv]
  clear hv hb hi hM hcell
  obtain ⟨q1, t1, k1⟩ := rb
  obtain ⟨q2, t2, k2⟩ := ri
  dsimp only at c0 c1 Ib Ii hrb hri ⊢
  have e0 : ∀ o, (w.alloc o).cell? ⟨b0, o0 + b, none⟩ = some (.slice q1 t1.length k1) := fun o => (((Below.refl _ w).alloc (Nat.le_refl _) o).cell (p := ⟨b0, o0 + b, none⟩) (World.block_lt_of_cell? w _ c0)).trans c0
  have e1 : ∀ o, (w.alloc o).cell? ⟨b0, o0 + i, none⟩ = some (.slice q2 t2.length k2) := fun o => (((Below.refl _ w).alloc (Nat.le_refl _) o).cell (p := ⟨b0, o0 + i, none⟩) (World.block_lt_of_cell? w _ c1)).trans c1
  have hb0 : ¬ (b : Int) < 0 := by omega
  have z := Try.zeroValue87
  have s := Try.sizeOf87
  have F := fun w => (callsIn_wide (n := 3)).1 (folded_in 3 ((i : Int) - b - 1) w)
  have H1 := fun o => spaced_any q1 t1 k1 (w.alloc o) (Ib.alloc o) hrb
  have H2 := fun o => spaced_any q2 t2 k2 (w.alloc o) (Ii.alloc o) hri
  cases h1 : spacedP t1 with
  | true =>
    rw [h1] at H1
    show Calls _ _ _ _ fun e w' => e = .returned (runV 10 ((i : Int) - b - 1 + 1)) ∧ _
    go_enter Try.func61, Try.ntmps61
    go_wp2_with (first | (go_at_call 53; refine (H1 _).mono ?_; rintro e w' ⟨rfl, rfl⟩))
    exact bodyPost_ret (v := runV 10 ((i : Int) - b - 1 + 1)) (by simp [results, Try.results61, go_sem, runV] <;> omega) rfl ⟨rfl, World.grownBy_alloc _ _ none⟩
  | false =>
    rw [h1] at H1
    cases h2 : spacedP t2 with
    | true =>
      rw [h2] at H2
      show Calls _ _ _ _ fun e w' => e = .returned (runV 10 ((i : Int) - b - 1 + 1)) ∧ _
      go_enter Try.func61, Try.ntmps61
      go_wp2_with (first | (go_at_call 53; refine (H1 _).mono ?_; clear H1; rintro e w' ⟨rfl, rfl⟩) | (go_at_call 53; refine (H2 _).mono ?_; rintro e w' ⟨rfl, rfl⟩))
      exact bodyPost_ret (v := runV 10 ((i : Int) - b - 1 + 1)) (by simp [results, Try.results61, go_sem, runV] <;> omega) rfl ⟨rfl, World.grownBy_alloc _ _ none⟩
    | false =>
      rw [h2] at H2
      show Calls _ _ _ _ fun e w' => e = .returned (foldV ((i : Int) - b - 1)) ∧ _
      obtain ⟨x, y, hxy⟩ := foldV_form ((i : Int) - b - 1)
      rw [hxy] at F ⊢
      go_enter Try.func61, Try.ntmps61
      go_wp2_with (first | (go_at_call 53; refine (H1 _).mono ?_; clear H1; rintro e w' ⟨rfl, rfl⟩) | (go_at_call 53; refine (H2 _).mono ?_; rintro e w' ⟨rfl, rfl⟩) | (go_at_call 67; refine (F _).mono ?_; rintro e w' ⟨rfl, hg⟩; have hbk : w'.heap[w.heap.size]? = some (.cells #[.int .i64 0, .int .i64 0] 87) := (hg.block _ (by simp) (by simp)).trans (World.alloc_heap_new w _); have cb0 : w'.cell? ⟨w.heap.size, 0, none⟩ = some (.int .i64 0) := (by simp [World.cell?, hbk]); have cb1 : w'.cell? ⟨w.heap.size, 1, none⟩ = some (.int .i64 0) := (by simp [World.cell?, hbk]); have fb0 : w'.frozen? ⟨w.heap.size, 0, none⟩ = false := (by simp [World.frozen?, hbk]); have fb1 : w'.frozen? ⟨w.heap.size, 1, none⟩ = false := (by simp [World.frozen?, hbk])))
      exact bodyPost_ret (v := .agg #[.int .i64 x, .int .i64 y]) (by simp [results, Try.results61, go_sem, cb0, cb1]) rfl ⟨rfl, grown_after hg _ _⟩
end Go.Proofs.Ytgmcomfeggidnaa
