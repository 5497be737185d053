/- prefix, as it runs. -/
import Derived.Test.YtgldejcneglpnaaVrs
import Derived.Test.YtgldejcneglpnaaVal
set_option linter.unusedVariables false
set_option linter.unusedSimpArgs false
namespace Go.Proofs.Ytgldejcneglpnaa
open Go.RowKit Go.Shelf

def prefL : List (List Int) → Option (ByteArray × ByteArray × ByteArray)
  | p :: q :: rest => if closesL rest = false then none else if iAt p 0 ≠ 33 ∨ hdP p < p.length ∨ onlyP q = false then none else some (tagB, txt p, txt q)
  | _ => none

set_option maxRecDepth 100000 in
set_option maxHeartbeats 2000000 in
theorem prefix_any (p : Option Addr) (R : List Row) (n c : Nat) (w : World) (hl : n = R.length) (hR : R.length ≤ 4) (hc : R.length ≤ c) (hm : c ≤ maxLen) (hF : Fit R) (hM : Mt w p R) :
    Calls Try.prog 32 #[.slice p n c] w fun e w' => e = .returned (dirV (prefL (R.map (·.t)))) ∧ Below w.heap.size w w' := by
  subst hl
  cases R with
  | nil =>
    show Calls Try.prog 32 #[.slice p 0 c] w fun e w' => e = .returned (dirV none) ∧ Below w.heap.size w w'
    rw [dirV_none]
    go_enter Try.func32, Try.ntmps32
    go_wp2
    refine bodyPost_ret (results_tmp4 rfl _ _ _) rfl ?_
    exact ⟨rfl, Below.refl _ _⟩
  | cons r R =>
    cases R with
    | nil =>
      show Calls Try.prog 32 #[.slice p 1 c] w fun e w' => e = .returned (dirV none) ∧ Below w.heap.size w w'
      rw [dirV_none]
      go_enter Try.func32, Try.ntmps32
      go_wp2
      refine bodyPost_ret (results_tmp4 rfl _ _ _) rfl ?_
      exact ⟨rfl, Below.refl _ _⟩
    | cons s R =>
      obtain ⟨p1, S1, hM1⟩ := rows_from hM hc 2 2 rfl (by simp)
      have hR3 : R.length ≤ 4 := by simp at hR; omega
      have CL := closes_any p1 R R.length (c - 2) w rfl hR3 (fun r hr => hF r (by simp [hr])) hM1
      rw [show (r :: s :: R).length - 2 = R.length by simp] at S1
      obtain ⟨V, hV⟩ : ∃ V, dirV (prefL ((r :: s :: R).map (·.t))) = V := ⟨_, rfl⟩
      rw [hV, List.length_cons, List.length_cons]
      rw [List.length_cons, List.length_cons] at S1 hc
      rw [List.map_cons, List.map_cons, prefL] at hV
      obtain ⟨b, o, rfl, hu⟩ := hM.at (by simp)
      have c0 := hu 0 r rfl
      have c1 := hu 1 s rfl
      obtain ⟨h1, h2, h3⟩ := hM.1 0 r rfl
      obtain ⟨hf1, hf2⟩ := hF r (by simp)
      obtain ⟨k1, k2, k3⟩ := hM.1 1 s rfl
      obtain ⟨kf1, kf2⟩ := hF s (by simp)
      obtain ⟨b2, o2, e, hu2⟩ := h3.at hf1
      rw [e, Nat.add_zero] at c0
      rw [e] at h3
      have c2 := hu2 0 hf1
      rw [Nat.add_zero] at c2
      have S0 : ∀ n : KinT w, n.val.cell? ⟨b, o, none⟩ = some (.slice (some ⟨b2, o2, none⟩) r.t.length r.c) := fun n => (n.property.cell (p := ⟨b, o, none⟩) (World.block_lt_of_cell? w _ c0)).trans c0
      have S2 : ∀ n : KinT w, n.val.cell? ⟨b, o + 1, none⟩ = some (.slice s.q s.t.length s.c) := fun n => (n.property.cell (p := ⟨b, o + 1, none⟩) (World.block_lt_of_cell? w _ c1)).trans c1
      have S3 : ∀ n : KinT w, n.val.cell? ⟨b2, o2, none⟩ = some (.int .i64 (iAt r.t 0)) := fun n => (n.property.cell (p := ⟨b2, o2, none⟩) (World.block_lt_of_cell? w _ c2)).trans c2
      have HD := fun (W : World) (hW : Below w.heap.size w W) => (handle_any (some ⟨b2, o2, none⟩) r.t r.t.length r.c W rfl hf2 h1 h2 hf1 (h3.on hW)).mono (fun e w2 h => (⟨h.1, by rw [h.2]; exact Below.refl _ _⟩ : e = .returned (.int .i64 (hdP r.t : Nat)) ∧ Below W.heap.size W w2))
      have OS := fun (W : World) (hW : Below w.heap.size w W) => onlySigns_any s.q s.t s.t.length s.c W rfl (by omega) k1 k2 (k3.on hW)
      have hon : decide (0 < s.t.length ∧ runE (uN s.t) s.t.length 0 = s.t.length) = onlyP s.t := rfl
      rw [hon] at OS
      have T1 := fun (W : World) (hW : Below w.heap.size w W) => text_any (some ⟨b2, o2, none⟩) r.t r.t.length r.c W rfl hf2 (h3.on hW)
      have T2 := fun (W : World) (hW : Below w.heap.size w W) => text_any s.q s.t s.t.length s.c W rfl kf2 (k3.on hW)
      have hdl := hdP_le hf1
      have hl1 : ¬ ((R.length : Int) + 1 + 1 < 2) := by omega
      have hl2 : (0 : Int) < (R.length : Int) + 1 + 1 := by omega
      have hl3 : (1 : Int) < (R.length : Int) + 1 + 1 := by omega
      have hl4 : (r.t.length : Int) ≤ 1000000 := by omega
      have hl5 : (0 : Int) < r.t.length := by omega
      have hl6 : ¬ ((R.length : Int) + 2 < 2) := by omega
      have hl7 : (0 : Int) < (R.length : Int) + 2 := by omega
      have hl8 : (1 : Int) < (R.length : Int) + 2 := by omega
      cases hcl : closesL (R.map (·.t)) with
      | false =>
        rw [hcl] at CL
        rw [if_pos hcl, dirV_none] at hV
        subst hV
        generalize R.length = Rl at *
        clear hu hu2 h3 k3 hM hM1 hF e HD OS T1 T2 S0 S2 S3 hcl hon
        go_enter Try.func32, Try.ntmps32
        go_wp2_with (first | (go_at_call 53; refine CL.mono ?_; rintro e w ⟨rfl, rfl⟩))
        refine bodyPost_ret (results_tmp4 rfl _ _ _) rfl ?_
        exact ⟨rfl, Below.refl _ _⟩
      | true =>
        rw [hcl] at CL
        rw [if_neg (by rw [hcl]; simp)] at hV
        generalize R.length = Rl at *
        clear hu hu2 h3 k3 hM hM1 hF hcl e hon c0 c1 c2
        by_cases z1 : iAt r.t 0 = 33
        rotate_left
        · rw [if_pos (.inl z1), dirV_none] at hV
          subst hV
          have z1' : (iAt r.t 0 == 33) = false := by simpa using z1
          have z1'' : (iAt r.t 0 != 33) = true := by simpa using z1
          generalize iAt r.t 0 = x at S3 z1' z1''
          clear z1 T1 T2
          go_enter Try.func32, Try.ntmps32
          go_wp2_with fail
          refine CL.mono ?_; rintro e w ⟨rfl, rfl⟩
          go_wp2_with fail
          refine wp_region_quiet (C := fun w' => ∃ n : KinT w, w' = n.val) (by kernel_rfl) (by kernel_rfl) ⟨⟨w.drew, (Below.refl _ w).drew⟩, rfl⟩ ?_
          simp only [List.toList_toArray]
          repeat (go_big_quiet_step (first | (go_at_call 26; exact kin_call (HD _ (KinT.property _))) | (go_at_call 55; exact kin_call (OS _ (KinT.property _))) | exact rfl))
          refine wpQuiet_nil ?_
          rintro w' ⟨n, rfl⟩
          have hB1 := n.property
          generalize n.val = W1 at hB1 ⊢
          go_wp2
          refine bodyPost_ret (results_tmp4 rfl _ _ _) rfl ?_
          exact ⟨rfl, hB1⟩
        rw [z1] at S3
        by_cases z2 : hdP r.t < r.t.length
        · rw [if_pos (.inr (.inl z2)), dirV_none] at hV
          subst hV
          have z2' : ((hdP r.t : Nat) : Int) < r.t.length := by omega
          generalize hdP r.t = hd at *
          clear z1 T1 T2
          go_enter Try.func32, Try.ntmps32
          go_wp2_with fail
          refine CL.mono ?_; rintro e w ⟨rfl, rfl⟩
          go_wp2_with fail
          refine wp_region_quiet (C := fun w' => ∃ n : KinT w, w' = n.val) (by kernel_rfl) (by kernel_rfl) ⟨⟨w.drew, (Below.refl _ w).drew⟩, rfl⟩ ?_
          simp only [List.toList_toArray]
          repeat (go_big_quiet_step (first | (go_at_call 26; exact kin_call (HD _ (KinT.property _))) | (go_at_call 55; exact kin_call (OS _ (KinT.property _))) | exact rfl))
          refine wpQuiet_nil ?_
          rintro w' ⟨n, rfl⟩
          have hB1 := n.property
          generalize n.val = W1 at hB1 ⊢
          go_wp2
          refine bodyPost_ret (results_tmp4 rfl _ _ _) rfl ?_
          exact ⟨rfl, hB1⟩
        have z2' : ¬ ((hdP r.t : Nat) : Int) < r.t.length := by omega
        generalize hdP r.t = hd at *
        cases z3 : onlyP s.t with
        | false =>
          rw [if_pos (.inr (.inr z3)), dirV_none] at hV
          subst hV
          rw [z3] at OS
          clear z1 z3 T1 T2
          go_enter Try.func32, Try.ntmps32
          go_wp2_with fail
          refine CL.mono ?_; rintro e w ⟨rfl, rfl⟩
          go_wp2_with fail
          refine wp_region_quiet (C := fun w' => ∃ n : KinT w, w' = n.val) (by kernel_rfl) (by kernel_rfl) ⟨⟨w.drew, (Below.refl _ w).drew⟩, rfl⟩ ?_
          simp only [List.toList_toArray]
          repeat (go_big_quiet_step (first | (go_at_call 26; exact kin_call (HD _ (KinT.property _))) | (go_at_call 55; exact kin_call (OS _ (KinT.property _))) | exact rfl))
          refine wpQuiet_nil ?_
          rintro w' ⟨n, rfl⟩
          have hB1 := n.property
          generalize n.val = W1 at hB1 ⊢
          go_wp2
          refine bodyPost_ret (results_tmp4 rfl _ _ _) rfl ?_
          exact ⟨rfl, hB1⟩
        | true =>
          rw [if_neg (fun h => by rcases h with h | h | h; exact h z1; exact z2 h; rw [z3] at h; cases h), dirV_some] at hV
          generalize txt r.t = x1 at T1 hV
          generalize txt s.t = x2 at T2 hV
          subst hV
          rw [z3] at OS
          clear z1 z3
          go_enter Try.func32, Try.ntmps32
          go_wp2_with fail
          refine CL.mono ?_; rintro e w ⟨rfl, rfl⟩
          go_wp2_with fail
          refine wp_region_quiet (C := fun w' => ∃ n : KinT w, w' = n.val) (by kernel_rfl) (by kernel_rfl) ⟨⟨w.drew, (Below.refl _ w).drew⟩, rfl⟩ ?_
          simp only [List.toList_toArray]
          repeat (go_big_quiet_step (first | (go_at_call 26; exact kin_call (HD _ (KinT.property _))) | (go_at_call 55; exact kin_call (OS _ (KinT.property _))) | exact rfl))
          refine wpQuiet_nil ?_
          rintro w' ⟨n, rfl⟩
          have hB1 := n.property
          generalize n.val = W1 at hB1 ⊢
          have S0' : ∀ n : KinT W1, n.val.cell? ⟨b, o, none⟩ = some (.slice (some ⟨b2, o2, none⟩) r.t.length r.c) := fun n => S0 ⟨n.val, hB1.trans (n.property.mono hB1.size)⟩
          have S2' : ∀ n : KinT W1, n.val.cell? ⟨b, o + 1, none⟩ = some (.slice s.q s.t.length s.c) := fun n => S2 ⟨n.val, hB1.trans (n.property.mono hB1.size)⟩
          have T1' := fun (W : World) (hW : Below W1.heap.size W1 W) => T1 W (hB1.trans (hW.mono hB1.size))
          have T2' := fun (W : World) (hW : Below W1.heap.size W1 W) => T2 W (hB1.trans (hW.mono hB1.size))
          clear T1 T2 S0 S2 S3 HD OS
          go_wp2_with fail
          refine wp_region_quiet (C := fun w' => ∃ n : KinT W1, w' = n.val) (by kernel_rfl) (by kernel_rfl) ⟨⟨W1.drew, (Below.refl _ W1).drew⟩, rfl⟩ ?_
          simp only [List.toList_toArray]
          repeat (go_big_quiet_step (first | (go_at_call 23; first | with_reducible exact kin_call (T1' _ (KinT.property _)) | with_reducible exact kin_call (T2' _ (KinT.property _))) | exact rfl))
          refine wpQuiet_nil ?_
          rintro w' ⟨n, rfl⟩
          have hB2 := n.property
          go_wp2
          refine bodyPost_ret (results_tmp4 rfl _ _ _) rfl ?_
          exact ⟨rfl, hB1.trans (hB2.mono hB1.size)⟩
end Go.Proofs.Ytgldejcneglpnaa
