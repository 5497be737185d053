/- EventsTell's walk. -/
import Derived.Test.YtgmenlcngdphhaaAlv
set_option linter.unusedVariables false
set_option linter.unusedSimpArgs false
namespace Go.Proofs.Ytgmenlcngdphhaa
open Go.RowKit Go.Shelf

/-- Either End, of any place. -/
theorem End_any (q : Option Addr) (L : List Ev) (c : Nat) (i : Int) (w : World) (hl : L.length ≤ 1048576) (hcl : L.length ≤ c) (hE : Es w q L) :
    ∃ V : Int, (Calls Try.prog 14 #[.slice q L.length c, .int .i64 i] w fun e w' => e = .returned (.int .i64 V) ∧ Below w.heap.size w w') ∧
      ∀ w2, Below w.heap.size w w2 → Calls Try.prog 15 #[.slice q L.length c, .int .i64 i] w2 fun e w' => e = .returned (.int .i64 V) ∧ Below w2.heap.size w2 w' := by
  by_cases hi : i < 0 ∨ (L.length : Int) ≤ i
  · exact ⟨i, End_out q L.length c i w hi, fun w2 _ => (rEnd_out q L.length c i w2 hi).mono fun e w' ⟨h1, h2⟩ => ⟨h1, by rw [h2]; exact Below.refl _ _⟩⟩
  · obtain ⟨j, rfl⟩ : ∃ j : Nat, i = j := ⟨i.toNat, by omega⟩
    have hj : j < L.length := by omega
    refine ⟨(endP L j : Nat), End_in q L L.length c j w rfl hl hcl hj hE, fun w2 h2 => ?_⟩
    have := rEnd_in q L L.length c j w2 rfl hl hcl hj (hE.on h2)
    rw [rendP_eq] at this
    exact this

set_option maxRecDepth 100000 in
set_option maxHeartbeats 4000000 in
theorem tell_law (w : World) (q : Option Addr) (L : List Ev) (c : Nat) (hlm : L.length ≤ maxLen) (hcl : L.length ≤ c) (hE : Es w q L) (i : Int) :
    Calls Try.prog 3 #[.slice q L.length c, .int .i64 i] w fun e w' => e = .returned (.bool true) ∧ Below w.heap.size w w' := by
  have AL := alive_any w
  have BG := fun (W : World) (hW : Below w.heap.size w W) => Big_any q L c W hlm (hE.on hW)
  have HBG : Hid _ := BG
  clear BG
  have HF : Hid (L.length ≤ 300 → ∀ W : World, Below w.heap.size w W →
      (Calls Try.prog 8 #[.slice q L.length c] W fun e w' => e = .returned (.bool (rightP L)) ∧ Below W.heap.size W w') ∧
      (Calls Try.prog 9 #[.slice q L.length c] W fun e w' => e = .returned (.bool (rightP L)) ∧ Below W.heap.size W w') ∧
      (Calls Try.prog 10 #[.slice q L.length c] W fun e w' => e = .returned (.int .i64 (depthP L : Nat)) ∧ Below W.heap.size W w') ∧
      (Calls Try.prog 11 #[.slice q L.length c] W fun e w' => e = .returned (.int .i64 (depthP L : Nat)) ∧ Below W.heap.size W w') ∧
      (Calls Try.prog 12 #[.slice q L.length c] W fun e w' => e = .returned (.int .i64 (nodesP L : Nat)) ∧ w' = W) ∧
      (Calls Try.prog 13 #[.slice q L.length c] W fun e w' => e = .returned (.int .i64 (nodesP L : Nat)) ∧ w' = W) ∧
      ∃ V : Int, (Calls Try.prog 14 #[.slice q L.length c, .int .i64 i] W fun e w' => e = .returned (.int .i64 V) ∧ Below W.heap.size W w') ∧
        ∀ w2, Below W.heap.size W w2 → Calls Try.prog 15 #[.slice q L.length c, .int .i64 i] w2 fun e w' => e = .returned (.int .i64 V) ∧ Below w2.heap.size w2 w') := fun h3 W hW => by
    have hl : L.length ≤ 1048576 := by omega
    have hEW := hE.on hW
    have r9 := rRight_any q L _ c W rfl hl hcl hEW
    have r11 := rDepth_any q L _ c W rfl hl hcl hEW
    rw [← right_eq] at r9
    rw [depth_eq] at r11
    exact ⟨Right_any q L _ c W rfl hl hEW, r9, Depth_any q L _ c W rfl hl hEW, r11, Nodes_any q L c W hl hEW, rNodes_any q L c W hl hEW, End_any q L c i W hl hcl hEW⟩
  clear hE hlm hcl
  obtain ⟨R, hR⟩ : ∃ R, rightP L = R := ⟨_, rfl⟩
  obtain ⟨D, hD⟩ : ∃ D, depthP L = D := ⟨_, rfl⟩
  obtain ⟨N, hN⟩ : ∃ N, nodesP L = N := ⟨_, rfl⟩
  rw [hR, hD, hN] at HF
  clear hR hD hN
  go_enter Try.func3, Try.ntmps3
  go_wp2_with (first | (go_at_call 6; refine AL.mono ?_; clear AL; rintro e W1 ⟨rfl, hB1⟩; have B1 := HBG.out W1 hB1; clear HBG) | (go_at_call 7; refine B1.mono ?_; clear B1; rintro e W2 ⟨⟨bg, rfl, hbg⟩, rfl⟩; have HBB : Hid (bg = false → L.length ≤ 300) := hbg; clear hbg; cases bg))
  · have h3 := HBB.out (by trivial)
    obtain ⟨c8, -⟩ := HF.out h3 _ hB1
    refine c8.mono ?_
    rintro e W3 ⟨rfl, hB3⟩
    have k3 := hB1.trans (hB3.mono hB1.size)
    obtain ⟨-, c9, -⟩ := HF.out h3 W3 k3
    go_wp2_with (first | (go_at_call 9; refine c9.mono ?_; clear c9; rintro e W4 ⟨rfl, hB4⟩; have k4 := k3.trans (hB4.mono k3.size); obtain ⟨-, -, c10, -⟩ := HF.out h3 W4 k4) | (go_at_call 10; refine c10.mono ?_; clear c10; rintro e W5 ⟨rfl, hB5⟩; have k5 := k4.trans (hB5.mono k4.size); obtain ⟨-, -, -, c11, -⟩ := HF.out h3 W5 k5) | (go_at_call 11; refine c11.mono ?_; clear c11; rintro e W6 ⟨rfl, hB6⟩; have k6 := k5.trans (hB6.mono k5.size); obtain ⟨-, -, -, -, c12, c13, V, c14, c15⟩ := HF.out h3 W6 k6; have H15 : Hid _ := c15; clear c15) | (go_at_call 12; refine c12.mono ?_; clear c12; rintro e W7 ⟨rfl, rfl⟩) | (go_at_call 13; refine c13.mono ?_; clear c13; rintro e W7 ⟨rfl, rfl⟩) | (go_at_call 14; refine c14.mono ?_; clear c14; rintro e W8 ⟨rfl, hB8⟩; have c15 := H15.out W8 hB8; clear H15; have k8 := k6.trans (hB8.mono k6.size)) | (go_at_call 15; refine c15.mono ?_; clear c15; rintro e W9 ⟨rfl, hB9⟩; have k9 := k8.trans (hB9.mono k8.size)))
    go_ret
    exact ⟨rfl, k9⟩
  · go_ret
    exact ⟨rfl, hB1⟩
end Go.Proofs.Ytgmenlcngdphhaa
