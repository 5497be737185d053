/- Big: lines that are none that a text has, or too many. -/
import Derived.Test.YtgmcomfeggidnaaIdn
import Derived.Test.YtgmcomfeggidnaaSml
set_option linter.unusedVariables false
set_option linter.unusedSimpArgs false
namespace Go.Proofs.Ytgmcomfeggidnaa
open Go.RowKit

def BigQ (L : List Ln) (w : World) (e : Ending) (w' : World) : Prop := ∃ b, e = .returned (.bool b) ∧ (b = false → Bnd L) ∧ w' = w

set_option maxRecDepth 100000 in
set_option maxHeartbeats 1000000 in
theorem Big_any (p : Option Addr) (L : List Ln) (cap : Nat) (w : World) (hl : L.length ≤ maxLen) (hL : Ls w p L) :
    Calls Try.prog 11 #[.slice p L.length cap] w (BigQ L w) := by
  have hn2 : (L.length : Int) ≤ 9223372036854775807 := by unfold maxLen at hl; omega
  go_enter Try.func11, Try.ntmps11
  go_wp2
  go_loopw [3] (fun iv wr => ∃ (k : Nat), k ≤ L.length ∧ iv = .int .i64 k ∧ Hid (∀ (j : Nat) (x : Ln), j < k → L[j]? = some x → 0 ≤ x.n ∧ x.n ≤ 1000 ∧ x.t.length ≤ 1000) ∧ wr = w) (fun iv _ => L.length - (intOf iv).toNat)
  case atStart => exact ⟨0, Nat.zero_le _, rfl, fun j x hj => by omega, rfl⟩
  case round =>
    obtain ⟨k, hk, rfl, HV, rfl⟩ := hrel
    by_cases hlt : k < L.length
    · have hli : (k : Int) < L.length := by omega
      obtain ⟨x, hx⟩ : ∃ x, L[k]? = some x := ⟨_, List.getElem?_eq_getElem hlt⟩
      obtain ⟨b, o, rfl, hc⟩ := hL.at (by omega)
      obtain ⟨c0, c1⟩ := hc k x hx
      obtain ⟨x3, x4, hI⟩ := hL.1 k x hx
      have HV' : Hid (¬ x.n < 0 → ¬ 100 < x.n → ¬ 200 < x.t.length → ∀ (j : Nat) (x : Ln), j < k + 1 → L[j]? = some x → 0 ≤ x.n ∧ x.n ≤ 1000 ∧ x.t.length ≤ 1000) := fun h1 h2 h3 j y hj hy => by
        by_cases e : j = k
        · subst e; rw [hx] at hy; cases hy; omega
        · exact HV.out j y (by omega) hy
      clear hx hc
      obtain ⟨xn, xq, xt, xc⟩ := x
      dsimp only at c0 c1 x3 x4 hI HV'
      have MY0 := fun (h : xt.length ≤ 200) (W : World) (hW : Is W xq xt) => refMay_any xq xt xc W (by omega) hW
      by_cases g0 : xn < 0
      · clear MY0
        go_wp2
        go_ret
        exact ⟨true, rfl, (fun h => by cases h), rfl⟩
      by_cases g1 : 100 < xn
      · clear MY0
        go_wp2
        go_ret
        exact ⟨true, rfl, (fun h => by cases h), rfl⟩
      by_cases g2 : 200 < xt.length
      · have g2' : (200 : Int) < xt.length := by omega
        clear MY0
        go_wp2
        go_ret
        exact ⟨true, rfl, (fun h => by cases h), rfl⟩
      · have g2' : ¬ (200 : Int) < xt.length := by omega
        have MY := MY0 (by omega) wr hI
        have HV2 : Hid _ := HV'.out g0 g1 g2
        clear MY0 HV HV' hL
        cases hm : mayP xt with
        | false =>
          rw [hm] at MY
          by_cases g3 : 0 < xt.length
          · have g3' : (0 : Int) < xt.length := by omega
            obtain ⟨b2, o2, rfl, hc2⟩ := hI.at g3
            have c2 := hc2 0 g3
            rw [Nat.add_zero] at c2
            generalize iAt xt 0 = y at c2
            clear hc2 hI hm
            go_wp2_with (first | (go_at_call 19; refine MY.mono ?_; rintro e wr ⟨rfl, rfl⟩))
            all_goals
              go_ret
              exact ⟨true, rfl, (fun h => by cases h), rfl⟩
          · have g3' : ¬ (0 : Int) < xt.length := by omega
            clear hI hm
            go_wp2_with (first | (go_at_call 19; refine MY.mono ?_; rintro e wr ⟨rfl, rfl⟩))
            go_ret
            exact ⟨true, rfl, (fun h => by cases h), rfl⟩
        | true =>
          rw [hm] at MY
          by_cases g3 : 0 < xt.length
          · have g3' : (0 : Int) < xt.length := by omega
            obtain ⟨b2, o2, rfl, hc2⟩ := hI.at g3
            have c2 := hc2 0 g3
            rw [Nat.add_zero] at c2
            generalize iAt xt 0 = y at c2
            clear hc2 hI hm
            by_cases g4 : y = 32
            · subst g4
              go_wp2_with (first | (go_at_call 19; refine MY.mono ?_; rintro e wr ⟨rfl, rfl⟩))
              go_ret
              exact ⟨true, rfl, (fun h => by cases h), rfl⟩
            · have g4' : (y == 32) = false := by simpa using g4
              go_wp2_with (first | (go_at_call 19; refine MY.mono ?_; rintro e wr ⟨rfl, rfl⟩))
              go_roundw
              case rel => exact ⟨k + 1, by omega, by go_num, HV2, by first | rfl | trivial⟩
              case measure => simp [intOf]; omega
          · have g3' : ¬ (0 : Int) < xt.length := by omega
            clear hI hm
            go_wp2_with (first | (go_at_call 19; refine MY.mono ?_; rintro e wr ⟨rfl, rfl⟩))
            go_roundw
            case rel => exact ⟨k + 1, by omega, by go_num, HV2, by first | rfl | trivial⟩
            case measure => simp [intOf]; omega
    · obtain rfl : k = L.length := by omega
      go_wp2
      go_ret
      refine ⟨_, rfl, fun h => ⟨?_, fun j x hx => HV.out j x (List.getElem?_eq_some_iff.1 hx).1 hx⟩, by first | rfl | trivial⟩
      simp at h
      omega
end Go.Proofs.Ytgmcomfeggidnaa
