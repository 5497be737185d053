/- What Empty and Bare answer, and the document's own ones, for every line. -/
import Derived.Test.YtcijjbnkdjmklaaTell
set_option linter.unusedVariables false
set_option linter.unusedSimpArgs false
namespace Go.Proofs.Ytcijjbnkdjmklaa
open Go.RowKit

def emptyP (l : List Int) : Bool := decide (run blankP l = l.length)
def bareP (l : List Int) : Bool := emptyP l || decide (iAt l (run blankP l) = 35)

theorem iAt_drop (l : List Int) (k : Nat) : iAt (l.drop k) 0 = iAt l k := by simp [iAt]
theorem empty_len (l : List Int) : emptyP l = ((l.length - run blankP l : Nat) == 0) := by
  have := run_le blankP l
  unfold emptyP
  rw [Bool.eq_iff_iff]
  simp
  omega

set_option maxRecDepth 100000 in
set_option maxHeartbeats 1000000 in
theorem empty_any (i : Int) (p : Option Addr) (l : List Int) (cap : Nat) (w : World) (hl : l.length ≤ cap) (hm : (cap : Int) ≤ 9223372036854775807) (h : Is w p l) :
    Calls Try.prog 14 #[.agg #[.int .i64 i, .slice p l.length cap]] w fun e w' => e = .returned (.bool (emptyP l)) ∧ Below w.heap.size w w' := by
  have h' := h.alloc (.cells #[.int .i64 i, .slice p l.length cap] 34)
  clear h
  have HB : Hid (Below w.heap.size w (w.alloc (.cells #[.int .i64 i, .slice p l.length cap] 34))) := (Below.refl _ w).alloc (Nat.le_refl _) _
  have HE : Hid _ := empty_len l
  go_enter Try.func14, Try.ntmps14
  go_wp2_with (first | (go_at_call 27; refine (behind_any _ _ _ _ hl hm h').mono ?_; rintro e w' ⟨⟨q, c, rfl, -⟩, rfl⟩))
  go_ret
  refine ⟨ret_bool ?_, HB.out⟩
  rw [HE.out, Bool.eq_iff_iff]
  simp

set_option maxRecDepth 100000 in
set_option maxHeartbeats 1000000 in
theorem rempty_any (i : Int) (p : Option Addr) (l : List Int) (cap : Nat) (w : World) (hm : (l.length : Int) ≤ 2 ^ 62) (h : Is w p l) :
    Calls Try.prog 15 #[.agg #[.int .i64 i, .slice p l.length cap]] w fun e w' => e = .returned (.bool (emptyP l)) ∧ Below w.heap.size w w' := by
  have h' := h.alloc (.cells #[.int .i64 i, .slice p l.length cap] 34)
  clear h
  have HB : Hid (Below w.heap.size w (w.alloc (.cells #[.int .i64 i, .slice p l.length cap] 34))) := (Below.refl _ w).alloc (Nat.le_refl _) _
  go_enter Try.func15, Try.ntmps15
  go_wp2
  go_quiet (first | (go_at_call 28; exact Calls.quiet_of (past_any _ _ _ _ hm (h'.drewN _))))
  go_wp2
  go_ret
  refine ⟨ret_bool ?_, belowN HB.out _⟩
  unfold emptyP
  rw [Bool.eq_iff_iff]
  simp
  try omega

set_option maxRecDepth 100000 in
set_option maxHeartbeats 1000000 in
theorem bare_any (i : Int) (p : Option Addr) (l : List Int) (cap : Nat) (w : World) (hl : l.length ≤ cap) (hm : (cap : Int) ≤ 9223372036854775807) (h : Is w p l) :
    Calls Try.prog 16 #[.agg #[.int .i64 i, .slice p l.length cap]] w fun e w' => e = .returned (.bool (bareP l)) ∧ Below w.heap.size w w' := by
  have h' := h.alloc (.cells #[.int .i64 i, .slice p l.length cap] 34)
  clear h
  have HB : Hid (Below w.heap.size w (w.alloc (.cells #[.int .i64 i, .slice p l.length cap] 34))) := (Below.refl _ w).alloc (Nat.le_refl _) _
  have hle := run_le blankP l
  by_cases he : run blankP l = l.length
  · rw [show bareP l = true from by unfold bareP emptyP; simp [he]]
    go_enter Try.func16, Try.ntmps16
    go_wp2_with (first | (go_at_call 27; refine (behind_any _ _ _ _ hl hm h').mono ?_; rw [he, Nat.sub_self]; rintro e w' ⟨⟨q, c, rfl, -⟩, rfl⟩))
    go_ret
    exact ⟨rfl, HB.out⟩
  · have HV : Hid (bareP l = decide (iAt l (run blankP l) = 35)) := by show bareP l = _; unfold bareP emptyP; simp [he]
    have hx := iAt_drop l (run blankP l)
    obtain ⟨r, hR⟩ : ∃ r, run blankP l = r := ⟨_, rfl⟩
    have B := behind_any p l cap (w.alloc (.cells #[.int .i64 i, .slice p l.length cap] 34)) hl hm h'
    rw [hR] at HV hx B he hle
    rw [HV.out]
    clear hR HV
    have hr : ¬ ((l.length - r : Nat) : Int) = 0 := by omega
    have hr0 : (0 : Int) < ((l.length - r : Nat) : Int) := by omega
    have t : ((((l.length - r : Nat) : Int)) == 0) = false := by simpa using hr
    obtain ⟨v, hv⟩ : ∃ v, decide (iAt l r = 35) = v := ⟨_, rfl⟩
    rw [hv]
    rw [← hx] at hv
    have HV : Hid (decide (iAt (l.drop r) 0 = 35) = v) := hv
    clear hv hx
    go_enter Try.func16, Try.ntmps16
    go_wp2_with fail
    refine B.mono ?_
    rintro e w' ⟨⟨q, c, rfl, hq⟩, rfl⟩
    obtain ⟨b, o, rfl, hc⟩ := hq.at (by simp; omega)
    have c0 := hc 0 (by simp; omega)
    rw [Nat.add_zero] at c0
    clear hc hq B h'
    generalize iAt (l.drop r) 0 = y at c0 HV
    go_wp2
    go_ret
    refine ⟨ret_bool ?_, HB.out⟩
    rw [← HV.out, Bool.eq_iff_iff]
    simp

set_option maxRecDepth 100000 in
set_option maxHeartbeats 1000000 in
theorem rbare_any (i : Int) (p : Option Addr) (l : List Int) (cap : Nat) (w : World) (hm : (l.length : Int) ≤ 2 ^ 62) (h : Is w p l) :
    Calls Try.prog 17 #[.agg #[.int .i64 i, .slice p l.length cap]] w fun e w' => e = .returned (.bool (bareP l)) ∧ Below w.heap.size w w' := by
  have h' := h.alloc (.cells #[.int .i64 i, .slice p l.length cap] 34)
  clear h
  have HB : Hid (Below w.heap.size w (w.alloc (.cells #[.int .i64 i, .slice p l.length cap] 34))) := (Below.refl _ w).alloc (Nat.le_refl _) _
  have hle := run_le blankP l
  have P := past_any p l cap (w.alloc (.cells #[.int .i64 i, .slice p l.length cap] 34)) hm h'
  by_cases he : run blankP l = l.length
  · rw [show bareP l = true from by unfold bareP emptyP; simp [he]]
    rw [he] at P
    clear h'
    go_enter Try.func17, Try.ntmps17
    go_wp2_with (first | (go_at_call 28; refine P.mono ?_; rintro e w' ⟨rfl, m, rfl⟩))
    go_ret
    exact ⟨rfl, belowN HB.out _⟩
  · have HV : Hid (bareP l = decide (iAt l (run blankP l) = 35)) := by show bareP l = _; unfold bareP emptyP; simp [he]
    obtain ⟨r, hR⟩ : ∃ r, run blankP l = r := ⟨_, rfl⟩
    rw [hR] at HV P he hle
    rw [HV.out]
    clear hR HV
    have he' : ¬ (r : Int) = l.length := by omega
    have hr : ((r : Int) == l.length) = false := by simpa using he'
    have hr0 : (r : Int) < l.length := by omega
    obtain ⟨b, o, rfl, hc⟩ := h'.at (by omega)
    have c0 := hc r (by omega)
    clear hc h'
    generalize iAt l r = y at c0 ⊢
    go_enter Try.func17, Try.ntmps17
    go_wp2_with (first | (go_at_call 28; refine P.mono ?_; rintro e w' ⟨rfl, m, rfl⟩))
    go_ret
    refine ⟨ret_bool ?_, belowN HB.out _⟩
    rw [Bool.eq_iff_iff]
    simp
end Go.Proofs.Ytcijjbnkdjmklaa
