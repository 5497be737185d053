/- BlockReads, as it runs. -/
import Derived.Test.YtgmcomfeggidnaaRbr
import Derived.Test.YtgmcomfeggidnaaBig
set_option linter.unusedVariables false
set_option linter.unusedSimpArgs false
namespace Go.Proofs.Ytgmcomfeggidnaa
open Go.RowKit Go.Shelf

theorem readV_form (f : Bool) (ch more n : Int) (L : List Ln) : ∃ (s : ByteArray) (k : Nat) (e : Int), readV f ch more n L = .tuple #[.string s, .int .i64 k, .int .i64 e] := by
  unfold readV
  split
  · exact ⟨_, _, _, rfl⟩
  · exact ⟨_, 0, _, rfl⟩

set_option maxRecDepth 100000 in
set_option maxHeartbeats 1000000 in
theorem reads_law (p : Option Addr) (L : List Ln) (cap : Nat) (f : Bool) (ch more n : Int) (w : World) (hl : L.length ≤ maxLen) (hL : Ls w p L) :
    Calls Try.prog 4 #[.slice p L.length cap, .bool f, .int .i64 ch, .int .i64 more, .int .i64 n] w fun e w' => e = .returned (.bool true) ∧ Below w.heap.size w w' := by
  by_cases g0 : ch < 0
  · go_enter Try.func4, Try.ntmps4
    go_wp2_with (first | (go_at_call 7; refine (alive_any _).mono ?_; rintro e w1 ⟨rfl, hb1⟩) | (go_at_call 11; refine (Big_any p L cap w1 hl (hL.on hb1)).mono ?_; rintro e w1 ⟨b, rfl, hbB, rfl⟩))
    all_goals
      go_ret
      exact ⟨rfl, hb1⟩
  by_cases g1 : 2 < ch
  · go_enter Try.func4, Try.ntmps4
    go_wp2_with (first | (go_at_call 7; refine (alive_any _).mono ?_; rintro e w1 ⟨rfl, hb1⟩) | (go_at_call 11; refine (Big_any p L cap w1 hl (hL.on hb1)).mono ?_; rintro e w1 ⟨b, rfl, hbB, rfl⟩))
    all_goals
      go_ret
      exact ⟨rfl, hb1⟩
  by_cases g2 : more < 0
  · go_enter Try.func4, Try.ntmps4
    go_wp2_with (first | (go_at_call 7; refine (alive_any _).mono ?_; rintro e w1 ⟨rfl, hb1⟩) | (go_at_call 11; refine (Big_any p L cap w1 hl (hL.on hb1)).mono ?_; rintro e w1 ⟨b, rfl, hbB, rfl⟩))
    all_goals
      go_ret
      exact ⟨rfl, hb1⟩
  by_cases g3 : 9 < more
  · go_enter Try.func4, Try.ntmps4
    go_wp2_with (first | (go_at_call 7; refine (alive_any _).mono ?_; rintro e w1 ⟨rfl, hb1⟩) | (go_at_call 11; refine (Big_any p L cap w1 hl (hL.on hb1)).mono ?_; rintro e w1 ⟨b, rfl, hbB, rfl⟩))
    all_goals
      go_ret
      exact ⟨rfl, hb1⟩
  by_cases g4 : 200 < n
  · go_enter Try.func4, Try.ntmps4
    go_wp2_with (first | (go_at_call 7; refine (alive_any _).mono ?_; rintro e w1 ⟨rfl, hb1⟩) | (go_at_call 11; refine (Big_any p L cap w1 hl (hL.on hb1)).mono ?_; rintro e w1 ⟨b, rfl, hbB, rfl⟩))
    all_goals
      go_ret
      exact ⟨rfl, hb1⟩
  have RD := fun hB W hW => Read_any f ch more n p L cap W hB hW (by omega) (by omega) (by omega)
  have RR := fun hB W hW => rRead_any f ch more n p L cap W hB hW (by omega) (by omega) (by omega)
  obtain ⟨s, k, x, hv⟩ := readV_form f ch more n L
  rw [hv] at RD RR
  clear hv
  go_enter Try.func4, Try.ntmps4
  go_wp2_with (first | (go_at_call 7; refine (alive_any _).mono ?_; rintro e w1 ⟨rfl, hb1⟩) | (go_at_call 11; refine (Big_any p L cap w1 hl (hL.on hb1)).mono ?_; rintro e w1 ⟨b, rfl, hbB, rfl⟩) | (go_at_call 12; have hB : Bnd L := hbB (by first | rfl | assumption | simp_all); refine (RD hB _ (hL.on hb1)).mono ?_; rintro e w2 ⟨rfl, hb2⟩) | (go_at_call 13; refine (RR hB _ ((hL.on hb1).on hb2)).mono ?_; rintro e w3 ⟨rfl, hb3⟩) | (go_at_call 10; refine (num_any _ _).mono ?_; rintro e w3 ⟨rfl, rfl⟩))
  · go_ret
    exact ⟨rfl, hb1⟩
  · go_ret
    exact ⟨ret_bool (by simp), (hb1.trans (hb2.mono hb1.size)).trans (hb3.mono (Nat.le_trans hb1.size hb2.size))⟩
end Go.Proofs.Ytgmcomfeggidnaa
