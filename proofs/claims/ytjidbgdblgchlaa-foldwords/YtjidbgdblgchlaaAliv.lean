/- The document's example holds: alive answers true. big: are lines too many? -/
import Derived.Test.YtjidbgdblgchlaaCol
set_option linter.unusedVariables false
set_option linter.unusedSimpArgs false
namespace Go.Proofs.Ytjidbgdblgchlaa
open Go.RowKit Go.Shelf

theorem flow_alive (a b : Option Addr) (c d : Nat) : flowT [⟨a, [97], c⟩, ⟨none, [], 0⟩, ⟨b, [98], d⟩] = [97, 10, 98] := by rfl
theorem sized_small {R : List Row} (h : R.length ≤ 1048576) (h2 : ∀ r, r ∈ R → r.t.length ≤ 1048576) : Sized R := by
  refine ⟨h, fun i => ?_⟩
  unfold tAt
  cases hr : R[i]? with
  | none => simp
  | some r => simpa using h2 r (List.mem_of_getElem? hr)

/-- The three lines of the example. -/
def exW (w : World) : World := ((w.alloc (.cells #[.int .i64 97] 3)).alloc (.cells #[.int .i64 98] 3)).alloc (.cells #[.slice (some ⟨w.heap.size, 0, none⟩) 1 1, .slice none 0 0, .slice (some ⟨w.heap.size + 1, 0, none⟩) 1 1] 26)
def exR (w : World) : List Row := [⟨some ⟨w.heap.size, 0, none⟩, [97], 1⟩, ⟨none, [], 0⟩, ⟨some ⟨w.heap.size + 1, 0, none⟩, [98], 1⟩]
theorem exW_facts (w : World) : (exW w).heap.size = w.heap.size + 3 ∧ Mt (exW w) (some ⟨w.heap.size + 1 + 1, 0, none⟩) (exR w) ∧ Below w.heap.size w (exW w) := by
  have k1 : (exW w).heap[w.heap.size]? = some (.cells #[.int .i64 97] 3) := by
    unfold exW
    rw [Below.heap_alloc _ _ _ (by simp; omega), Below.heap_alloc _ _ _ (by simp)]
    exact World.alloc_heap_new w _
  have k2 : (exW w).heap[w.heap.size + 1]? = some (.cells #[.int .i64 98] 3) := by
    unfold exW
    rw [Below.heap_alloc _ _ _ (by simp)]
    have := World.alloc_heap_new (w.alloc (.cells #[.int .i64 97] 3)) (.cells #[.int .i64 98] 3)
    rwa [World.size_alloc] at this
  have k3 : (exW w).heap[w.heap.size + 1 + 1]? = some (.cells #[.slice (some ⟨w.heap.size, 0, none⟩) 1 1, .slice none 0 0, .slice (some ⟨w.heap.size + 1, 0, none⟩) 1 1] 26) := by
    have := World.alloc_heap_new ((w.alloc (.cells #[.int .i64 97] 3)).alloc (.cells #[.int .i64 98] 3)) (.cells #[.slice (some ⟨w.heap.size, 0, none⟩) 1 1, .slice none 0 0, .slice (some ⟨w.heap.size + 1, 0, none⟩) 1 1] 26)
    simp only [World.size_alloc] at this
    exact this
  refine ⟨by simp [exW], ⟨?_, .inr ⟨_, _, rfl, ?_⟩⟩, (((Below.refl _ w).alloc (Nat.le_refl _) _).alloc (by simp) _).alloc (by simp; omega) _⟩
  · intro j r hr
    match j, hr with
    | 0, hr => cases hr; exact ⟨by simp, by unfold maxLen; simp, is_of_block (l := [97]) k1⟩
    | 1, hr => cases hr; exact ⟨by simp, by unfold maxLen; simp, .inl rfl⟩
    | 2, hr => cases hr; exact ⟨by simp, by unfold maxLen; simp, is_of_block (l := [98]) k2⟩
    | j + 3, hr => simp [exR] at hr
  · intro j r hr
    match j, hr with
    | 0, hr => cases hr; simp [World.cell?, k3]
    | 1, hr => cases hr; simp [World.cell?, k3]
    | 2, hr => cases hr; simp [World.cell?, k3]
    | j + 3, hr => simp [exR] at hr

theorem flow_ex (w : World) : Calls Try.prog 12 #[.slice (some ⟨w.heap.size + 1 + 1, 0, none⟩) 3 3] (exW w) fun e w' => ∃ g c, e = .returned (.slice (some ⟨g, 0, none⟩) 3 c) ∧ w'.cell? ⟨g, 0, none⟩ = some (.int .i64 97) ∧ w'.cell? ⟨g, 1, none⟩ = some (.int .i64 10) ∧ w'.cell? ⟨g, 2, none⟩ = some (.int .i64 98) ∧ Below w.heap.size w w' := by
  obtain ⟨hs, hM, hB⟩ := exW_facts w
  have := Flow_any _ (exR w) 3 (exW w) (sized_small (by simp [exR]) (by intro r hr; simp [exR] at hr; rcases hr with rfl | rfl | rfl <;> simp)) hM
  refine this.mono ?_
  rintro e w' ⟨v, rfl, ho, hb⟩
  have hf : flowT (exR w) = [97, 10, 98] := flow_alive _ _ _ _
  rw [hf] at ho
  obtain ⟨g, cap, e⟩ := ownsRow_succ (k := 2) ho
  subst e
  have hc := ho.cells (g := g) rfl
  have c0 := hc 0 _ rfl
  have c1 := hc 1 _ rfl
  have c2 := hc 2 _ rfl
  simp only [add_plain] at c0 c1 c2
  exact ⟨g, cap, rfl, c0, c1, c2, hB.trans (hb.mono (by omega))⟩

set_option maxRecDepth 100000 in
set_option maxHeartbeats 1000000 in
theorem alive_any (w : World) : Calls Try.prog 9 #[] w fun e w' => e = .returned (.bool true) ∧ Below w.heap.size w w' := by
  have PA := flow_ex w
  go_enter Try.func9, Try.ntmps9
  go_wp2_with (first | (go_at_call 12; refine PA.mono ?_; rintro e w' ⟨g, c, rfl, c0, c1, c2, hb⟩))
  go_ret
  exact ⟨rfl, hb⟩

def bigB (R : List Row) : Bool := R.any (fun r => decide (200 < r.t.length)) || decide (60 < R.length)
theorem big_small {R : List Row} (h : bigB R = false) : R.length ≤ 60 ∧ ∀ i, (tAt R i).length ≤ 200 := by
  unfold bigB at h
  simp at h
  refine ⟨h.2, fun i => ?_⟩
  unfold tAt
  cases hr : R[i]? with
  | none => simp
  | some r => simpa using h.1 r (List.mem_of_getElem? hr)
theorem big_sized {R : List Row} (h : bigB R = false) : Sized R := by
  obtain ⟨h1, h2⟩ := big_small h
  exact ⟨by omega, fun i => Nat.le_trans (h2 i) (by omega)⟩

set_option maxRecDepth 100000 in
set_option maxHeartbeats 1000000 in
theorem big_any (p : Option Addr) (R : List Row) (cap : Nat) (w : World) (hl : R.length ≤ maxLen) (hM : Mt w p R) :
    Calls Try.prog 10 #[.slice p R.length cap] w fun e w' => e = .returned (.bool (bigB R)) ∧ w' = w := by
  have hm : (R.length : Int) ≤ 9223372036854775807 := by unfold maxLen at hl; omega
  obtain ⟨z, hz⟩ : ∃ z, bigB R = z := ⟨_, rfl⟩
  rw [hz]
  have HZ : Hid (bigB R = z) := hz
  clear hz
  go_enter Try.func10, Try.ntmps10
  go_wp2
  go_loop [3] (fun i => ∃ (k : Nat), k ≤ R.length ∧ i = .int .i64 k ∧ Hid (∀ j r, j < k → R[j]? = some r → ¬ 200 < r.t.length)) (fun i => R.length - (intOf i).toNat)
  case atStart => exact ⟨0, Nat.zero_le _, rfl, fun j r hj => by omega⟩
  case round =>
    obtain ⟨k, hk, rfl, HE⟩ := hrel
    by_cases hlt : k < R.length
    · have hli : (k : Int) < R.length := by omega
      obtain ⟨b, o, rfl, hb⟩ := hM.at (by omega)
      obtain ⟨r, hr⟩ := row_at hlt
      have c0 := hb k r hr
      have hmr : r.t.length ≤ maxLen := Nat.le_trans (hM.1 k r hr).1 (hM.1 k r hr).2.1
      by_cases h2 : 200 < r.t.length
      · have h2' : (200 : Int) < r.t.length := by omega
        have hzt : z = true := by
          rw [← HZ.out]
          unfold bigB
          rw [List.any_eq_true.2 ⟨r, List.mem_of_getElem? hr, by simpa using h2⟩]
          rfl
        subst hzt
        clear hb hM
        go_wp2
        go_ret
        exact ⟨rfl, rfl⟩
      · have h2' : ¬ (200 : Int) < r.t.length := by omega
        have HE' : Hid (∀ j r, j < k + 1 → R[j]? = some r → ¬ 200 < r.t.length) := by
          intro j r' hj hr'
          by_cases e : j = k
          · subst e; rw [hr] at hr'; cases hr'; exact h2
          · exact HE.out j r' (by omega) hr'
        clear hb hM
        go_wp2
        go_round
        case rel => exact ⟨k + 1, by omega, by go_num, HE'⟩
        case measure => simp [intOf]; omega
    · obtain rfl : k = R.length := by omega
      have hzt : z = decide ((60 : Int) < R.length) := by
        rw [← HZ.out]
        unfold bigB
        have : R.any (fun r => decide (200 < r.t.length)) = false := by
          rw [List.any_eq_false]
          intro r hr
          obtain ⟨j, hj⟩ := List.mem_iff_getElem?.1 hr
          simpa using HE.out j r (List.getElem?_eq_some_iff.1 hj).1 hj
        rw [this, Bool.false_or]
        by_cases h : 60 < R.length
        · rw [decide_eq_true h, decide_eq_true (by omega)]
        · rw [decide_eq_false h, decide_eq_false (by omega)]
      subst hzt
      go_wp2
      go_ret
      exact ⟨rfl, rfl⟩
end Go.Proofs.Ytjidbgdblgchlaa
