/- What Empty and Bare answer, and the document's own ones, for every line. -/
import Derived.Test.YtgmcomfeggidnaaTell
set_option linter.unusedVariables false
set_option linter.unusedSimpArgs false
namespace Go.Proofs.Ytgmcomfeggidnaa
open Go.RowKit

def emptyP (l : List Int) : Bool := decide (run blankP l = l.length)
def bareP (l : List Int) : Bool := emptyP l || decide (iAt l (run blankP l) = 35)

theorem iAt_drop (l : List Int) (k : Nat) : iAt (l.drop k) 0 = iAt l k := by simp [iAt]
theorem empty_len (l : List Int) : emptyP l = ((l.length - run blankP l : Nat) == 0) := by
  have := run_le blankP l
  unfold emptyP
  rw [Bool.eq_iff_iff]
  simp
  omega

set_option maxRecDepth 100000 in
set_option maxHeartbeats 1000000 in
theorem bare_any (i : Int) (p : Option Addr) (l : List Int) (cap : Nat) (w : World) (hl : l.length ≤ cap) (hm : (cap : Int) ≤ 9223372036854775807) (h : Is w p l) :
    Calls Try.prog 31 #[.agg #[.int .i64 i, .slice p l.length cap]] w fun e w' => e = .returned (.bool (bareP l)) ∧ Below w.heap.size w w' := by
  have h' := h.alloc (.cells #[.int .i64 i, .slice p l.length cap] 44)
  clear h
  have HB : Hid (Below w.heap.size w (w.alloc (.cells #[.int .i64 i, .slice p l.length cap] 44))) := (Below.refl _ w).alloc (Nat.le_refl _) _
  have hle := run_le blankP l
  by_cases he : run blankP l = l.length
  · rw [show bareP l = true from by unfold bareP emptyP; simp [he]]
    go_enter Try.func31, Try.ntmps31
    go_wp2_with (first | (go_at_call 45; refine (behind_any _ _ _ _ hl hm h').mono ?_; rw [he, Nat.sub_self]; rintro e w' ⟨⟨q, c, rfl, -⟩, rfl⟩))
    go_ret
    exact ⟨rfl, HB.out⟩
  · have HV : Hid (bareP l = decide (iAt l (run blankP l) = 35)) := by show bareP l = _; unfold bareP emptyP; simp [he]
    have hx := iAt_drop l (run blankP l)
    obtain ⟨r, hR⟩ : ∃ r, run blankP l = r := ⟨_, rfl⟩
    have B := behind_any p l cap (w.alloc (.cells #[.int .i64 i, .slice p l.length cap] 44)) hl hm h'
    rw [hR] at HV hx B he hle
    rw [HV.out]
    clear hR HV
    have hr : ¬ ((l.length - r : Nat) : Int) = 0 := by omega
    have hr0 : (0 : Int) < ((l.length - r : Nat) : Int) := by omega
    have t : ((((l.length - r : Nat) : Int)) == 0) = false := by simpa using hr
    obtain ⟨v, hv⟩ : ∃ v, decide (iAt l r = 35) = v := ⟨_, rfl⟩
    rw [hv]
    rw [← hx] at hv
    have HV : Hid (decide (iAt (l.drop r) 0 = 35) = v) := hv
    clear hv hx
    go_enter Try.func31, Try.ntmps31
    go_wp2_with fail
    refine B.mono ?_
    rintro e w' ⟨⟨q, c, rfl, hq⟩, rfl⟩
    obtain ⟨b, o, rfl, hc⟩ := hq.at (by simp; omega)
    have c0 := hc 0 (by simp; omega)
    rw [Nat.add_zero] at c0
    clear hc hq B h'
    generalize iAt (l.drop r) 0 = y at c0 HV
    go_wp2
    go_ret
    refine ⟨ret_bool ?_, HB.out⟩
    rw [← HV.out, Bool.eq_iff_iff]
    simp

end Go.Proofs.Ytgmcomfeggidnaa
