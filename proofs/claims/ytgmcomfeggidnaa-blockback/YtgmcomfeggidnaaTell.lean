/- What hasMarker, behindBlanks, Past, Marker, Empty and Bare answer, for every line. -/
import Derived.Test.YtgmcomfeggidnaaLeaf
set_option linter.unusedVariables false
set_option linter.unusedSimpArgs false
namespace Go.Proofs.Ytgmcomfeggidnaa
open Go.RowKit

/-- How many of the first are so. -/
def run (p : Int → Bool) : List Int → Nat
  | [] => 0
  | x :: t => if p x then run p t + 1 else 0

theorem run_le (p : Int → Bool) (l : List Int) : run p l ≤ l.length := by
  induction l with
  | nil => simp [run]
  | cons x t ih => unfold run; split <;> simp <;> omega

theorem iAt_cons_succ (x : Int) (t : List Int) (k : Nat) : iAt (x :: t) (k + 1) = iAt t k := by simp [iAt]
theorem run_eq (p : Int → Bool) (l : List Int) : ∀ k, k ≤ l.length → (∀ j, j < k → p (iAt l j) = true) → (k < l.length → p (iAt l k) = false) → run p l = k := by
  induction l with
  | nil => intro k hk _ _; simp at hk; simp [run, hk]
  | cons x t ih =>
    intro k hk h1 h2
    cases k with
    | zero => have := h2 (by simp); simp [iAt] at this; simp [run, this]
    | succ k =>
      have h0 := h1 0 (by omega)
      simp [iAt] at h0
      have := ih k (by simp at hk; omega) (fun j hj => by have := h1 (j + 1) (by omega); rwa [iAt_cons_succ] at this) (fun hk2 => by have := h2 (by simp; omega); rwa [iAt_cons_succ] at this)
      simp [run, h0, this]

set_option maxRecDepth 100000 in
set_option maxHeartbeats 1000000 in
theorem behind_any (p : Option Addr) (l : List Int) (cap : Nat) (w : World) (hl : l.length ≤ cap) (hm : (cap : Int) ≤ 9223372036854775807) (h : Is w p l) :
    Calls Try.prog 45 #[.slice p l.length cap] w fun e w' => (∃ q c, e = .returned (.slice q (l.length - run blankP l) c) ∧ Is w q (l.drop (run blankP l))) ∧ w' = w := by
  obtain ⟨r, hR⟩ : ∃ r, run blankP l = r := ⟨_, rfl⟩
  rw [hR]
  have HR : Hid (run blankP l = r) := hR
  clear hR
  go_enter Try.func45, Try.ntmps45
  go_wp2
  go_loop [7] (fun i => ∃ (k : Nat), k ≤ l.length ∧ i = .int .i64 k ∧ Hid (∀ j, j < k → blankP (iAt l j) = true)) (fun i => l.length - (intOf i).toNat)
  case atStart => exact ⟨0, Nat.zero_le _, rfl, fun j hj => by omega⟩
  case round =>
    obtain ⟨k, hk, rfl, HE⟩ := hrel
    by_cases hlt : k < l.length
    · have hI := h
      obtain ⟨b, o, rfl, hb⟩ := h.at (by omega)
      have c0 := hb k hlt
      have HD : Hid (Is w (some ⟨b, o + k, none⟩) (l.drop k)) := hI.drop k
      have hck : ¬ cap = k := by omega
      clear hb h hI
      cases hx : blankP (iAt l k)
      · have hr : r = k := HR.out.symm.trans (run_eq blankP l k hk HE.out (fun _ => hx))
        generalize iAt l k = x at c0 hx
        subst hr
        go_wp2_with (first | (go_at_call 30; refine (blank_any _ _).mono ?_; rintro e w' ⟨rfl, rfl⟩))
        go_ret
        exact ⟨⟨_, _, rfl, HD.out⟩, rfl⟩
      · have HE' : Hid (∀ j, j < k + 1 → blankP (iAt l j) = true) := by
          intro j hj
          by_cases e : j = k
          · rw [e, hx]
          · exact HE.out j (by omega)
        generalize iAt l k = x at c0 hx
        clear HD
        go_wp2_with (first | (go_at_call 30; refine (blank_any _ _).mono ?_; rintro e w' ⟨rfl, rfl⟩))
        go_round
        case rel => exact ⟨k + 1, by omega, by go_num, HE'⟩
        case measure => simp [intOf]; omega
    · obtain rfl : k = l.length := by omega
      have hr : r = l.length := HR.out.symm.trans (run_eq blankP l _ hk HE.out (fun h => by omega))
      subst hr
      go_wp2
      go_ret
      exact ⟨⟨none, ⟨0, rfl⟩, .inl rfl⟩, rfl⟩

def mk3 (l : List Int) (c : Int) : Bool := decide (3 ≤ l.length ∧ iAt l 0 = c ∧ iAt l 1 = c ∧ iAt l 2 = c) && (decide (l.length = 3) || blankP (iAt l 3))

set_option maxRecDepth 100000 in
set_option maxHeartbeats 1000000 in
theorem has_any (p : Option Addr) (l : List Int) (c : Int) (cap : Nat) (w : World) (hm : (l.length : Int) ≤ 9223372036854775807) (h : Is w p l) :
    Calls Try.prog 55 #[.slice p l.length cap, .int .i64 c] w fun e w' => e = .returned (.bool (mk3 l c)) ∧ w' = w := by
  by_cases h3 : 3 ≤ l.length
  · have h3' : ¬ (l.length : Int) < 3 := by omega
    obtain ⟨b, o, rfl, hc⟩ := h.at (by omega)
    have c0 := hc 0 (by omega)
    have c1 := hc 1 (by omega)
    have c2 := hc 2 (by omega)
    rw [Nat.add_zero] at c0
    have hr : mk3 l c = (decide (iAt l 0 = c ∧ iAt l 1 = c ∧ iAt l 2 = c) && (decide (l.length = 3) || blankP (iAt l 3))) := by
      unfold mk3
      simp [h3]
    rw [hr]
    by_cases h4 : 3 < l.length
    · have c3 := hc 3 h4
      generalize iAt l 0 = x0 at c0 ⊢
      generalize iAt l 1 = x1 at c1 ⊢
      generalize iAt l 2 = x2 at c2 ⊢
      generalize iAt l 3 = x3 at c3 ⊢
      have h5 : ¬ l.length = 3 := by omega
      rw [decide_eq_false h5, Bool.false_or]
      clear hr h hc
      obtain ⟨r, hr⟩ : ∃ r, (decide (x0 = c ∧ x1 = c ∧ x2 = c) && blankP x3) = r := ⟨_, rfl⟩
      rw [hr]
      have HR : Hid ((decide (x0 = c ∧ x1 = c ∧ x2 = c) && blankP x3) = r) := hr
      clear hr
      go_enter Try.func55, Try.ntmps55
      go_wp2_with (first | (go_at_call 30; refine (blank_any _ _).mono ?_; rintro e w' ⟨rfl, rfl⟩))
      all_goals
        go_ret
        refine ⟨ret_bool ?_, rfl⟩
        rw [← HR.out]
        simp_all
    · have h5 : l.length = 3 := by omega
      generalize iAt l 0 = x0 at c0 ⊢
      generalize iAt l 1 = x1 at c1 ⊢
      generalize iAt l 2 = x2 at c2 ⊢
      rw [h5]
      clear hr h hc
      obtain ⟨r, hr⟩ : ∃ r, (decide (x0 = c ∧ x1 = c ∧ x2 = c)) = r := ⟨_, rfl⟩
      rw [hr]
      simp only [decide_true, Bool.true_or, Bool.and_true]
      have HR : Hid ((decide (x0 = c ∧ x1 = c ∧ x2 = c)) = r) := hr
      clear hr
      go_enter Try.func55, Try.ntmps55
      go_wp2_with (first | (go_at_call 30; refine (blank_any _ _).mono ?_; rintro e w' ⟨rfl, rfl⟩))
      all_goals
        go_ret
        refine ⟨ret_bool ?_, rfl⟩
        rw [← HR.out]
        simp_all
  · rw [show mk3 l c = false from by unfold mk3; simp [h3]]
    clear h
    go_enter Try.func55, Try.ntmps55
    go_wp2
    go_ret
    exact ⟨rfl, rfl⟩

def markP (i : Int) (l : List Int) : Int := if i ≠ 0 then 0 else if mk3 l 45 then 1 else if mk3 l 46 then 2 else 0

set_option maxRecDepth 100000 in
set_option maxHeartbeats 1000000 in
theorem marker_any (i : Int) (p : Option Addr) (l : List Int) (cap : Nat) (w : World) (hm : (l.length : Int) ≤ 9223372036854775807) (h : Is w p l) :
    Calls Try.prog 47 #[.agg #[.int .i64 i, .slice p l.length cap]] w fun e w' => e = .returned (.int .i64 (markP i l)) ∧ Below w.heap.size w w' := by
  have h' := h.alloc (.cells #[.int .i64 i, .slice p l.length cap] 44)
  clear h
  have HB : Hid (Below w.heap.size w (w.alloc (.cells #[.int .i64 i, .slice p l.length cap] 44))) := (Below.refl _ w).alloc (Nat.le_refl _) _
  by_cases hi : i = 0
  · subst hi
    cases h1 : mk3 l 45
    · cases h2 : mk3 l 46
      · rw [show markP 0 l = 0 from by unfold markP; simp [h1, h2]]
        go_enter Try.func47, Try.ntmps47
        go_wp2_with (first | (go_at_call 55; refine (has_any _ _ _ _ _ hm h').mono ?_; rintro e w' ⟨rfl, rfl⟩))
        go_ret
        exact ⟨rfl, HB.out⟩
      · rw [show markP 0 l = 2 from by unfold markP; simp [h1, h2]]
        go_enter Try.func47, Try.ntmps47
        go_wp2_with (first | (go_at_call 55; refine (has_any _ _ _ _ _ hm h').mono ?_; rintro e w' ⟨rfl, rfl⟩))
        go_ret
        exact ⟨rfl, HB.out⟩
    · rw [show markP 0 l = 1 from by unfold markP; simp [h1]]
      go_enter Try.func47, Try.ntmps47
      go_wp2_with (first | (go_at_call 55; refine (has_any _ _ _ _ _ hm h').mono ?_; rintro e w' ⟨rfl, rfl⟩))
      go_ret
      exact ⟨rfl, HB.out⟩
  · rw [show markP i l = 0 from by unfold markP; simp [hi]]
    have t : (i != 0) = true := by simpa using hi
    clear h'
    go_enter Try.func47, Try.ntmps47
    go_wp2
    go_ret
    exact ⟨rfl, HB.out⟩

theorem belowN {n : Nat} {A B : World} (h : Below n A B) (k : Nat) : Below n A (B.drewN k) := ⟨h.os, h.tape, h.output, h.size, h.block⟩

theorem mark_len {l : List Int} (h : ¬ 3 ≤ l.length) : markP 0 l = 0 := by unfold markP mk3; simp [h]
theorem mark_01 {l : List Int} (h : ¬ iAt l 0 = iAt l 1) : markP 0 l = 0 := by
  have : ∀ c, mk3 l c = false := fun c => by
    unfold mk3
    rw [decide_eq_false (by omega), Bool.false_and]
  unfold markP; simp [this]
theorem mark_12 {l : List Int} (h : ¬ iAt l 1 = iAt l 2) : markP 0 l = 0 := by
  have : ∀ c, mk3 l c = false := fun c => by
    unfold mk3
    rw [decide_eq_false (by omega), Bool.false_and]
  unfold markP; simp [this]
theorem mark_3 {l : List Int} (h : ¬ l.length = 3) (hb : blankP (iAt l 3) = false) : markP 0 l = 0 := by
  have : ∀ c, mk3 l c = false := fun c => by
    unfold mk3
    simp [h, hb]
  unfold markP; simp [this]
theorem mark_yes {l : List Int} (h3 : 3 ≤ l.length) (h01 : iAt l 0 = iAt l 1) (h12 : iAt l 1 = iAt l 2) (h : l.length = 3 ∨ blankP (iAt l 3) = true) : markP 0 l = if iAt l 2 = 45 then 1 else if iAt l 2 = 46 then 2 else 0 := by
  have : ∀ c, mk3 l c = decide (iAt l 2 = c) := fun c => by
    unfold mk3
    rw [Bool.eq_iff_iff]
    simp [h3, h01, h12]
    intro _
    exact h
  unfold markP; simp [this]

set_option maxRecDepth 100000 in
set_option maxHeartbeats 2000000 in
theorem rmarker_any (i : Int) (p : Option Addr) (l : List Int) (cap : Nat) (w : World) (hm : (l.length : Int) ≤ 9223372036854775807) (h : Is w p l) :
    Calls Try.prog 25 #[.agg #[.int .i64 i, .slice p l.length cap]] w fun e w' => e = .returned (.int .i64 (markP i l)) ∧ Below w.heap.size w w' := by
  have h' := h.alloc (.cells #[.int .i64 i, .slice p l.length cap] 44)
  clear h
  have HB : Hid (Below w.heap.size w (w.alloc (.cells #[.int .i64 i, .slice p l.length cap] 44))) := (Below.refl _ w).alloc (Nat.le_refl _) _
  by_cases hi : i = 0
  · subst hi
    by_cases h3 : 3 ≤ l.length
    · have t3 : decide ((l.length : Int) < 3) = false := decide_eq_false (by omega)
      have l0 : (0 : Int) < l.length := by omega
      have l1 : (1 : Int) < l.length := by omega
      have l2 : (2 : Int) < l.length := by omega
      obtain ⟨b, o, rfl, hc⟩ := h'.at (by omega)
      have c0 := hc 0 (by omega)
      have c1 := hc 1 (by omega)
      have c2 := hc 2 (by omega)
      have c3' := hc 3
      rw [Nat.add_zero] at c0
      clear h' hc
      by_cases h01 : iAt l 0 = iAt l 1
      · by_cases h12 : iAt l 1 = iAt l 2
        · by_cases h4 : 3 < l.length
          · have c3 := c3' h4
            have t4 : decide (3 < (l.length : Int)) = true := decide_eq_true (by omega)
            have l3 : (3 : Int) < l.length := by omega
            clear c3'
            cases hb : blankP (iAt l 3)
            · rw [mark_3 (by omega) hb]
              rw [h01, h12] at c0
              rw [h12] at c1
              generalize iAt l 2 = x at c0 c1 c2
              generalize iAt l 3 = y at c3 hb
              clear h01 h12 h3
              go_enter Try.func25, Try.ntmps25
              go_wp2
              go_quiet (first | (go_at_call 32; exact Calls.quiet_of_same (rblank_any _ _)))
              go_wp2
              go_ret
              exact ⟨rfl, belowN HB.out _⟩
            · have HR : Hid _ := mark_yes h3 h01 h12 (.inr hb)
              obtain ⟨r, hR⟩ : ∃ r, markP 0 l = r := ⟨_, rfl⟩
              rw [hR] at HR
              rw [hR]
              clear hR
              rw [h01, h12] at c0
              rw [h12] at c1
              generalize iAt l 2 = x at c0 c1 c2 HR
              generalize iAt l 3 = y at c3 hb
              clear h01 h12 h3
              go_enter Try.func25, Try.ntmps25
              go_wp2
              go_quiet (first | (go_at_call 32; exact Calls.quiet_of_same (rblank_any _ _)))
              go_wp2
              all_goals
                go_ret
                refine ⟨ret_int ?_, belowN HB.out _⟩
                have HR' := HR.out
                rw [HR']
                simp_all
          · have t4 : decide (3 < (l.length : Int)) = false := decide_eq_false (by omega)
            have HR : Hid _ := mark_yes h3 h01 h12 (.inl (by omega))
            obtain ⟨r, hR⟩ : ∃ r, markP 0 l = r := ⟨_, rfl⟩
            rw [hR] at HR
            rw [hR]
            clear hR c3'
            rw [h01, h12] at c0
            rw [h12] at c1
            generalize iAt l 2 = x at c0 c1 c2 HR
            clear h01 h12 h3
            go_enter Try.func25, Try.ntmps25
            go_wp2
            go_quiet (first | (go_at_call 32; exact Calls.quiet_of_same (rblank_any _ _)))
            go_wp2
            all_goals
              go_ret
              refine ⟨ret_int ?_, belowN HB.out _⟩
              have HR' := HR.out
              rw [HR']
              simp_all
        · rw [mark_12 h12]
          rw [h01] at c0
          generalize iAt l 1 = x at c0 c1 h12
          generalize iAt l 2 = y at c2 h12
          have t5 : (x != y) = true := by simpa using h12
          clear c3' h01 h3 h12
          go_enter Try.func25, Try.ntmps25
          go_wp2
          go_quiet (first | (go_at_call 32; exact Calls.quiet_of_same (rblank_any _ _)))
          go_wp2
          go_ret
          exact ⟨rfl, belowN HB.out _⟩
      · rw [mark_01 h01]
        generalize iAt l 0 = x at c0 h01
        generalize iAt l 1 = y at c1 h01
        have t5 : (x != y) = true := by simpa using h01
        clear c3' h01 h3 c2
        go_enter Try.func25, Try.ntmps25
        go_wp2
        go_quiet (first | (go_at_call 32; exact Calls.quiet_of_same (rblank_any _ _)))
        go_wp2
        go_ret
        exact ⟨rfl, belowN HB.out _⟩
    · rw [mark_len h3]
      have t3 : decide ((l.length : Int) < 3) = true := decide_eq_true (by omega)
      clear h'
      go_enter Try.func25, Try.ntmps25
      go_wp2
      go_quiet (first | (go_at_call 32; exact Calls.quiet_of_same (rblank_any _ _)))
      go_wp2
      go_ret
      exact ⟨rfl, belowN HB.out _⟩
  · rw [show markP i l = 0 from by unfold markP; simp [hi]]
    have t : (i != 0) = true := by simpa using hi
    clear h'
    go_enter Try.func25, Try.ntmps25
    go_wp2
    go_quiet (first | (go_at_call 32; exact Calls.quiet_of_same (rblank_any _ _)))
    go_wp2
    go_ret
    exact ⟨rfl, belowN HB.out _⟩
end Go.Proofs.Ytgmcomfeggidnaa
