/- EventsParts' walk. -/
import Derived.Test.YtgmenlcngdphhaaApp
set_option linter.unusedVariables false
set_option linter.unusedSimpArgs false
namespace Go.Proofs.Ytgmenlcngdphhaa
open Go.RowKit Go.Shelf

/-- What the functions tell of a row that lies in w. -/
theorem all_of (q : Option Addr) (L : List Ev) (c : Nat) (w : World) (hl : L.length ≤ 1048576) (hcl : L.length ≤ c) (hE : Es w q L) (W : World) (hW : Below w.heap.size w W) :
      (Calls Try.prog 8 #[.slice q L.length c] W fun e w' => e = .returned (.bool (rightP L)) ∧ Below W.heap.size W w') ∧
      (Calls Try.prog 9 #[.slice q L.length c] W fun e w' => e = .returned (.bool (rightP L)) ∧ Below W.heap.size W w') ∧
      (Calls Try.prog 10 #[.slice q L.length c] W fun e w' => e = .returned (.int .i64 (depthP L : Nat)) ∧ Below W.heap.size W w') ∧
      (Calls Try.prog 12 #[.slice q L.length c] W fun e w' => e = .returned (.int .i64 (nodesP L : Nat)) ∧ w' = W) := by
  have hEW := hE.on hW
  have r9 := rRight_any q L _ c W rfl hl hcl hEW
  rw [← right_eq] at r9
  exact ⟨Right_any q L _ c W rfl hl hEW, r9, Depth_any q L _ c W rfl hl hEW, Nodes_any q L c W hl hEW⟩
theorem chain {A B C : World} (h : Below A.heap.size A B) (k : Below B.heap.size B C) : Below A.heap.size A C := h.trans (k.mono h.size)

set_option maxRecDepth 100000 in
set_option maxHeartbeats 4000000 in
theorem parts_law (w : World) (q r : Option Addr) (A B : List Ev) (ca cb : Nat) (hlA : A.length ≤ maxLen) (hlB : B.length ≤ maxLen) (hcA : A.length ≤ ca) (hcB : B.length ≤ cb) (hA : Es w q A) (hB : Es w r B) :
    Calls Try.prog 4 #[.slice q A.length ca, .slice r B.length cb] w fun e w' => e = .returned (.bool true) ∧ Below w.heap.size w w' := by
  have AL := alive_any w
  have GA : Hid (∀ W : World, Below w.heap.size w W → Calls Try.prog 7 #[.slice q A.length ca] W fun e w' => BigE A e ∧ w' = W) := fun W hW => Big_any q A ca W hlA (hA.on hW)
  have GB : Hid (∀ W : World, Below w.heap.size w W → Calls Try.prog 7 #[.slice r B.length cb] W fun e w' => BigE B e ∧ w' = W) := fun W hW => Big_any r B cb W hlB (hB.on hW)
  have FA : Hid (A.length ≤ 300 → ∀ W : World, Below w.heap.size w W →
      (Calls Try.prog 9 #[.slice q A.length ca] W fun e w' => e = .returned (.bool (rightP A)) ∧ Below W.heap.size W w') ∧
      (Calls Try.prog 10 #[.slice q A.length ca] W fun e w' => e = .returned (.int .i64 (depthP A : Nat)) ∧ Below W.heap.size W w') ∧
      (Calls Try.prog 12 #[.slice q A.length ca] W fun e w' => e = .returned (.int .i64 (nodesP A : Nat)) ∧ w' = W)) := fun h W hW => (all_of q A ca w (by omega) hcA hA W hW).2
  have FB : Hid (B.length ≤ 300 → ∀ W : World, Below w.heap.size w W →
      (Calls Try.prog 9 #[.slice r B.length cb] W fun e w' => e = .returned (.bool (rightP B)) ∧ Below W.heap.size W w') ∧
      (Calls Try.prog 10 #[.slice r B.length cb] W fun e w' => e = .returned (.int .i64 (depthP B : Nat)) ∧ Below W.heap.size W w') ∧
      (Calls Try.prog 12 #[.slice r B.length cb] W fun e w' => e = .returned (.int .i64 (nodesP B : Nat)) ∧ w' = W)) := fun h W hW => (all_of r B cb w (by omega) hcB hB W hW).2
  have PP : Hid (rightP A = true → rightP B = true → rightP (A ++ B) = true ∧ depthP (A ++ B) = (if depthP B > depthP A then depthP B else depthP A) ∧ nodesP (A ++ B) = nodesP A + nodesP B) := fun h1 h2 => parts_plain h1 h2
  have APP : Hid (A.length ≤ 300 → B.length ≤ 300 → ∀ W : World, Below w.heap.size w W → ∃ v1 w1 w2 qc cc, (Builtin.append_ #[22, 22] 22 #[.slice none 0 0, .slice q A.length ca]).run Try.prog W = .ok v1 w1 ∧
      (Builtin.append_ #[22, 22] 22 #[v1, .slice r B.length cb]).run Try.prog w1 = .ok (.slice qc (A ++ B).length cc) w2 ∧ Below w.heap.size w w2 ∧
      ∀ W2 : World, Below w2.heap.size w2 W2 →
        (Calls Try.prog 8 #[.slice qc (A ++ B).length cc] W2 fun e w' => e = .returned (.bool (rightP (A ++ B))) ∧ Below W2.heap.size W2 w') ∧
        (Calls Try.prog 10 #[.slice qc (A ++ B).length cc] W2 fun e w' => e = .returned (.int .i64 (depthP (A ++ B) : Nat)) ∧ Below W2.heap.size W2 w') ∧
        (Calls Try.prog 12 #[.slice qc (A ++ B).length cc] W2 fun e w' => e = .returned (.int .i64 (nodesP (A ++ B) : Nat)) ∧ w' = W2)) := fun h1 h2 W hW => by
    obtain ⟨v1, w1, r1, o1, g1⟩ := pushE ca (OwnE.zero W W.heap.size) (Nat.le_refl _) (by simp; omega) (hA.on hW)
    rw [List.nil_append] at o1
    have k1 : Below W.heap.size W w1 := (Below.refl _ W).grown g1 (Nat.le_refl _) (fun k e => by cases e)
    obtain ⟨v2, w2, r2, o2, g2⟩ := pushE cb o1 k1.size (by omega) ((hB.on hW).on k1)
    have k2 : Below W.heap.size W w2 := o1.below (Nat.le_refl _) k1.size g2 k1
    obtain ⟨qc, cc, rfl, hcc, hcm, hE2⟩ := o2.read
    have hlen : (A ++ B).length ≤ 1048576 := by simp; omega
    refine ⟨v1, w1, w2, qc, cc, r1, r2, chain hW k2, fun W2 hW2 => ?_⟩
    obtain ⟨a1, -, a3, a4⟩ := all_of qc (A ++ B) cc w2 hlen hcc hE2 W2 hW2
    exact ⟨a1, a3, a4⟩
  have nA : Hid (∀ k, nodesP (A.take k) ≤ k) := fun k => by
    unfold nodesP
    refine Nat.le_trans List.countP_le_length ?_
    simp
    omega
  have HNA : Hid (nodesP A ≤ A.length ∧ nodesP B ≤ B.length) := ⟨List.countP_le_length, List.countP_le_length⟩
  clear nA hA hB hlA hlB hcA hcB
  generalize (A ++ B).length = lc at APP
  generalize hRA : rightP A = RA at *
  generalize hRB : rightP B = RB at *
  generalize rightP (A ++ B) = RC at *
  generalize depthP A = DA at *
  generalize depthP B = DB at *
  generalize depthP (A ++ B) = DC at *
  generalize nodesP A = NA at *
  generalize nodesP B = NB at *
  generalize nodesP (A ++ B) = NC at *
  clear hRA hRB
  go_enter Try.func4, Try.ntmps4
  go_wp2_with (first | (go_at_call 6; refine AL.mono ?_; clear AL; rintro e W1 ⟨rfl, k1⟩; have B1 := GA.out W1 k1; clear GA) | (go_at_call 7; refine B1.mono ?_; clear B1; rintro e W2 ⟨⟨bA, rfl, hbA⟩, rfl⟩; have HBA : Hid (bA = false → A.length ≤ 300) := hbA; clear hbA; have B2 := GB.out _ k1; clear GB; cases bA) | (go_at_call 7; refine B2.mono ?_; clear B2; rintro e W2 ⟨⟨bB, rfl, hbB⟩, rfl⟩; have HBB : Hid (bB = false → B.length ≤ 300) := hbB; clear hbB; cases bB))
  · have hA3 := HBA.out (by trivial)
    have hB3 := HBB.out (by trivial)
    refine (FA.out hA3 _ k1).1.mono ?_
    rintro e W3 ⟨rfl, h3⟩
    have k3 := chain k1 h3
    have rB := (FB.out hB3 W3 k3).1
    clear HBA HBB
    cases RA with
    | false =>
      clear rB FA FB PP APP
      go_wp2
      go_ret
      exact ⟨rfl, k3⟩
    | true =>
      cases RB with
      | false =>
        clear FA FB PP APP
        go_wp2_with (first | (go_at_call 9; refine rB.mono ?_; clear rB; rintro e W4 ⟨rfl, h4⟩; have k4' := chain k3 h4))
        go_ret
        exact ⟨rfl, k4'⟩
      | true =>
        obtain ⟨hRC, hDC, hNC⟩ := PP.out rfl rfl
        subst hRC
        obtain ⟨hn1, hn2⟩ := HNA.out
        have hn3 : (NA : Int) ≤ 300 := by omega
        have hn4 : (NB : Int) ≤ 300 := by omega
        have hNC2 : (NC : Int) = (NA : Int) + (NB : Int) := by omega
        clear PP HNA hn1 hn2 hNC
        by_cases hD : DB > DA
        · rw [if_pos hD] at hDC
          subst hDC
          have hD2 : (DA : Int) < DC := by omega
          clear hD
          go_wp2_with (first | (go_at_call 9; refine rB.mono ?_; clear rB; rintro e W4 ⟨rfl, h4⟩; have k4' := chain k3 h4; obtain ⟨v1, w1, w2, qc, cc, r1, r2, k4, hC⟩ := APP.out hA3 hB3 W4 k4'; have HC : Hid _ := hC; clear hC APP; have dA := (FA.out hA3 w2 k4).2.1) | (at_builtin; refine wpList_append_run rfl _ _ 22 rfl rfl rfl r1 ?_; clear r1) | (at_builtin; refine wpList_append_run rfl _ _ 22 rfl rfl rfl r2 ?_; clear r2) | (go_at_call 10; refine dA.mono ?_; clear dA; rintro e W5 ⟨rfl, h5⟩; have k5 := chain k4 h5; have m5 := h5; have dB := (FB.out hB3 W5 k5).2.1) | (go_at_call 10; refine dB.mono ?_; clear dB; rintro e W6 ⟨rfl, h6⟩; have k6 := chain k5 h6; have m6 := chain m5 h6; have dB2 := (FB.out hB3 W6 k6).2.1) | (go_at_call 10; refine dB2.mono ?_; clear dB2; rintro e W7 ⟨rfl, h7⟩; have k7 := chain k6 h7; have m7 := chain m6 h7; have rC := (HC.out W7 m7).1) | (go_at_call 8; refine rC.mono ?_; clear rC; rintro e W8 ⟨rfl, h8⟩; have k8 := chain k7 h8; have m8 := chain m7 h8; have dC := (HC.out W8 m8).2.1) | (go_at_call 10; refine dC.mono ?_; clear dC; rintro e W9 ⟨rfl, h9⟩; have k9 := chain k8 h9; have m9 := chain m8 h9; have nC := (HC.out W9 m9).2.2; have nA := (FA.out hA3 W9 k9).2.2; have nB := (FB.out hB3 W9 k9).2.2) | (go_at_call 12; refine nC.mono ?_; clear nC; rintro e W10 ⟨rfl, rfl⟩) | (go_at_call 12; refine nA.mono ?_; clear nA; rintro e W10 ⟨rfl, rfl⟩) | (go_at_call 12; refine nB.mono ?_; clear nB; rintro e W10 ⟨rfl, rfl⟩))
          go_ret
          exact ⟨rfl, by first | exact k9 | assumption⟩
        · rw [if_neg hD] at hDC
          subst hDC
          have hD2 : ¬ ((DC : Int) < DB) := by omega
          clear hD
          go_wp2_with (first | (go_at_call 9; refine rB.mono ?_; clear rB; rintro e W4 ⟨rfl, h4⟩; have k4' := chain k3 h4; obtain ⟨v1, w1, w2, qc, cc, r1, r2, k4, hC⟩ := APP.out hA3 hB3 W4 k4'; have HC : Hid _ := hC; clear hC APP; have dA := (FA.out hA3 w2 k4).2.1) | (at_builtin; refine wpList_append_run rfl _ _ 22 rfl rfl rfl r1 ?_; clear r1) | (at_builtin; refine wpList_append_run rfl _ _ 22 rfl rfl rfl r2 ?_; clear r2) | (go_at_call 10; refine dA.mono ?_; clear dA; rintro e W5 ⟨rfl, h5⟩; have k5 := chain k4 h5; have m5 := h5; have dB := (FB.out hB3 W5 k5).2.1) | (go_at_call 10; refine dB.mono ?_; clear dB; rintro e W7 ⟨rfl, h6⟩; have k7 := chain k5 h6; have m7 := chain m5 h6; have rC := (HC.out W7 m7).1) | (go_at_call 8; refine rC.mono ?_; clear rC; rintro e W8 ⟨rfl, h8⟩; have k8 := chain k7 h8; have m8 := chain m7 h8; have dC := (HC.out W8 m8).2.1) | (go_at_call 10; refine dC.mono ?_; clear dC; rintro e W9 ⟨rfl, h9⟩; have k9 := chain k8 h9; have m9 := chain m8 h9; have nC := (HC.out W9 m9).2.2; have nA := (FA.out hA3 W9 k9).2.2; have nB := (FB.out hB3 W9 k9).2.2) | (go_at_call 12; refine nC.mono ?_; clear nC; rintro e W10 ⟨rfl, rfl⟩) | (go_at_call 12; refine nA.mono ?_; clear nA; rintro e W10 ⟨rfl, rfl⟩) | (go_at_call 12; refine nB.mono ?_; clear nB; rintro e W10 ⟨rfl, rfl⟩))
          go_ret
          exact ⟨rfl, by first | exact k9 | assumption⟩
  · go_ret
    exact ⟨rfl, k1⟩
  · go_ret
    exact ⟨rfl, k1⟩
end Go.Proofs.Ytgmenlcngdphhaa
