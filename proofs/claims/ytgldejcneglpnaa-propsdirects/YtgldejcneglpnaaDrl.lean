/- PropsDirects, as it runs. -/
import Derived.Test.YtgldejcneglpnaaDez
set_option linter.unusedVariables false
set_option linter.unusedSimpArgs false
namespace Go.Proofs.Ytgldejcneglpnaa
open Go.RowKit Go.Shelf

set_option maxRecDepth 100000 in
set_option maxHeartbeats 1000000 in
theorem directs_law (q : Option Addr) (t : List Int) (c : Nat) (hc : t.length ≤ c) (hm : c ≤ maxLen) (w : World) (hI : Is w q t) :
    Calls Try.prog 4 #[.slice q t.length c] w fun e w' => e = .returned (.bool true) ∧ Below w.heap.size w w' := by
  have AL := alive_any w
  by_cases h3 : t.length ≤ 200
  · have h3' : ¬ (200 : Int) < t.length := by omega
    have hn : t.length ≤ 1000000 := by omega
    have DI := fun W (hW : Below w.heap.size w W) => Directive_any q t t.length c W rfl hn hc hm (hI.on hW)
    have RD := fun W (hW : Below w.heap.size w W) => rDirective_any q t t.length c W rfl hn hc hm (hI.on hW)
    rw [dir_eq] at DI
    obtain ⟨s1, s2, s3, ok, hs⟩ := dirV_form (rdirP t)
    rw [hs] at DI RD
    clear hs
    go_enter Try.func4, Try.ntmps4
    go_wp2_with (first | (go_at_call 8; refine AL.mono ?_; rintro e W1 ⟨rfl, hB1⟩) | (go_at_call 13; refine (DI _ hB1).mono ?_; rintro e W2 ⟨rfl, hB2⟩; have hB2 := hB1.trans (hB2.mono hB1.size)) | (go_at_call 14; refine (RD _ hB2).mono ?_; rintro e W3 ⟨rfl, hB3⟩; have hB3 := hB2.trans (hB3.mono hB2.size)))
    go_ret
    exact ⟨rfl, hB3⟩
  · have h3' : (200 : Int) < t.length := by omega
    have hm' := big_int (Nat.le_trans hc hm)
    go_enter Try.func4, Try.ntmps4
    go_wp2_with (first | (go_at_call 8; refine AL.mono ?_; rintro e W ⟨rfl, hB⟩))
    go_ret
    exact ⟨rfl, hB⟩
end Go.Proofs.Ytgldejcneglpnaa
