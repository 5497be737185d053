/- Lists of parts in memory; closes and version. -/
import Derived.Test.YtgldejcneglpnaaRvr
set_option linter.unusedVariables false
set_option linter.unusedSimpArgs false
namespace Go.Proofs.Ytgldejcneglpnaa
open Go.RowKit Go.Shelf

/-- A list in memory: where it lies, what it holds, how much room it has. -/
structure Row where
  q : Option Addr
  t : List Int
  c : Nat
/-- The slice at p holds these lists. -/
def Mt (w : World) (p : Option Addr) (R : List Row) : Prop :=
  (∀ (j : Nat) (r : Row), R[j]? = some r → r.t.length ≤ r.c ∧ r.c ≤ maxLen ∧ Is w r.q r.t) ∧
  (R = [] ∨ ∃ b o, p = some ⟨b, o, none⟩ ∧ ∀ (j : Nat) (r : Row), R[j]? = some r → w.cell? ⟨b, o + j, none⟩ = some (.slice r.q r.t.length r.c))
theorem Mt.at {w : World} {p : Option Addr} {R : List Row} (h : Mt w p R) (hl : 0 < R.length) : ∃ b o, p = some ⟨b, o, none⟩ ∧ ∀ (j : Nat) (r : Row), R[j]? = some r → w.cell? ⟨b, o + j, none⟩ = some (.slice r.q r.t.length r.c) := by
  rcases h.2 with rfl | h
  · simp at hl
  · exact h
theorem Mt.on {A B : World} {p : Option Addr} {R : List Row} (h : Mt A p R) (hb : Below A.heap.size A B) : Mt B p R := by
  refine ⟨fun j r hr => ⟨(h.1 j r hr).1, (h.1 j r hr).2.1, (h.1 j r hr).2.2.on hb⟩, ?_⟩
  rcases h.2 with e | ⟨b, o, e, hc⟩
  · exact .inl e
  · exact .inr ⟨b, o, e, fun j r hr => (hb.cell (p := ⟨b, o + j, none⟩) (World.block_lt_of_cell? A _ (hc j r hr))).trans (hc j r hr)⟩

theorem slice_from43 (p : Option Addr) (len cap m : Nat) (hm : m ≤ len) (hl : len ≤ cap) (w2 : World) :
    (Instr.slice 43 (.slice p len cap) (some (.int .i64 m)) none none).run Try.prog w2 = .ok (.slice (if cap = m then p else p.map (·.add m)) (len - m) (cap - m)) w2 := by
  have h0 : (m : Int) ≤ len := by omega
  have h1 : (len : Int) ≤ cap := by omega
  have u := Try.underlying43
  have z := Try.sizeOf22
  simp [go_sem, h0, h1]
/-- The lists from the m-th on. -/
theorem rows_from {w : World} {p : Option Addr} {R : List Row} {cap : Nat} (h : Mt w p R) (hc : R.length ≤ cap) (m : Nat) (mi : Int) (hmi : (m : Int) = mi) (hm : m ≤ R.length) :
    ∃ p', (∀ w2, (Instr.slice 43 (.slice p R.length cap) (some (.int .i64 mi)) none none).run Try.prog w2 = .ok (.slice p' (R.length - m) (cap - m)) w2) ∧ Mt w p' (R.drop m) := by
  subst hmi
  refine ⟨_, slice_from43 p R.length cap m hm hc, fun j r hr => h.1 (m + j) r (by rw [List.getElem?_drop] at hr; exact hr), ?_⟩
  by_cases hR : R.drop m = []
  · exact .inl hR
  · have hlt : m < R.length := by
      by_cases hlt : m < R.length
      · exact hlt
      · exact absurd (List.drop_eq_nil_of_le (by omega)) hR
    obtain ⟨b, o, rfl, hu⟩ := h.at (by omega)
    refine .inr ⟨b, o + m, ?_, fun j r hr => ?_⟩
    · rw [if_neg (by omega), Option.map_some, add_plain]
    · rw [Nat.add_assoc]
      exact hu (m + j) r (by rw [List.getElem?_drop] at hr; exact hr)

def closesL : List (List Int) → Bool
  | [] => true
  | p :: _ => decide (iAt p 0 = 35)
def verL : List (List Int) → Option (ByteArray × ByteArray × ByteArray)
  | [] => none
  | p :: rest => if closesL rest = false then none else if cnt digitP p = 0 ∨ cnt digitP p = p.length ∨ iAt p (cnt digitP p) ≠ 46 then none
    else if p.length = cnt digitP p + 1 ∨ cnt digitP (p.drop (cnt digitP p + 1)) < p.length - (cnt digitP p + 1) then none
    else some (yamlB, txt (p.take (cnt digitP p)), txt (p.drop (cnt digitP p + 1)))
theorem below_drewN (w : World) (k : Nat) : Below w.heap.size w (w.drewN k) := ⟨rfl, rfl, rfl, Nat.le_refl _, fun _ _ => rfl⟩
/-- No list is empty, none is long. -/
def Fit (R : List Row) : Prop := ∀ r ∈ R, 0 < r.t.length ∧ r.t.length ≤ 1000000

set_option maxRecDepth 100000 in
set_option maxHeartbeats 1000000 in
theorem closes_any (p : Option Addr) (R : List Row) (n c : Nat) (w : World) (hl : n = R.length) (hR : R.length ≤ 4) (hF : Fit R) (hM : Mt w p R) :
    Calls Try.prog 53 #[.slice p n c] w fun e w' => e = .returned (.bool (closesL (R.map (·.t)))) ∧ w' = w := by
  subst hl
  cases R with
  | nil =>
    go_enter Try.func53, Try.ntmps53
    go_wp2
    go_ret
    exact ⟨rfl, rfl⟩
  | cons r R =>
    obtain ⟨b, o, rfl, hu⟩ := hM.at (by simp)
    have c0 := hu 0 r rfl
    obtain ⟨h1, h2, h3⟩ := hM.1 0 r rfl
    obtain ⟨hf1, hf2⟩ := hF r (by simp)
    obtain ⟨b2, o2, e, hu2⟩ := h3.at hf1
    rw [e, Nat.add_zero] at c0
    have c1 := hu2 0 hf1
    rw [Nat.add_zero] at c1
    have hl0 : ((R.length + 1 : Nat) : Int) = (R.length : Int) + 1 := by omega
    have hl1 : ((R.length : Int) + 1 == 0) = false := by simp; omega
    have hl2 : (0 : Int) < (R.length : Int) + 1 := by omega
    have hl3 : (0 : Int) < r.t.length := by omega
    have hR3 : R.length ≤ 4 := by simp at hR; omega
    show Calls Try.prog 53 #[.slice _ (R.length + 1) c] w fun e w' => e = .returned (.bool (decide (iAt r.t 0 = 35))) ∧ w' = w
    generalize r.t.length = tl at *
    generalize R.length = Rl at *
    generalize r.c = rc at *
    by_cases h : iAt r.t 0 = 35
    · rw [decide_eq_true h]
      rw [h] at c1
      clear hu hu2 h3 hM hF h e
      go_enter Try.func53, Try.ntmps53
      go_wp2
      go_ret
      exact ⟨rfl, rfl⟩
    · rw [decide_eq_false h]
      have h' : (iAt r.t 0 == 35) = false := by simpa using h
      generalize iAt r.t 0 = x at c1 h'
      clear hu hu2 h3 hM hF h e
      go_enter Try.func53, Try.ntmps53
      go_wp2
      go_ret
      exact ⟨rfl, rfl⟩

set_option maxRecDepth 100000 in
set_option maxHeartbeats 1000000 in
theorem version_any (p : Option Addr) (R : List Row) (n c : Nat) (w : World) (hl : n = R.length) (hR : R.length ≤ 4) (hc : R.length ≤ c) (hm : c ≤ maxLen) (hF : Fit R) (hM : Mt w p R) :
    Calls Try.prog 31 #[.slice p n c] w fun e w' => e = .returned (dirV (verL (R.map (·.t)))) ∧ Below w.heap.size w w' := by
  subst hl
  cases R with
  | nil =>
    show Calls Try.prog 31 #[.slice p 0 c] w fun e w' => e = .returned (dirV none) ∧ Below w.heap.size w w'
    rw [dirV_none]
    go_enter Try.func31, Try.ntmps31
    go_wp2
    refine bodyPost_ret (results_tmp4 rfl _ _ _) rfl ?_
    exact ⟨rfl, Below.refl _ _⟩
  | cons r R =>
    obtain ⟨p1, S1, hM1⟩ := rows_from hM hc 1 1 rfl (by simp)
    have hR3 : R.length ≤ 4 := by simp at hR; omega
    have CL := closes_any p1 R R.length (c - 1) w rfl hR3 (fun r hr => hF r (by simp [hr])) hM1
    rw [show (r :: R).length - 1 = R.length by simp] at S1
    obtain ⟨V, hV⟩ : ∃ V, dirV (verL ((r :: R).map (·.t))) = V := ⟨_, rfl⟩
    rw [hV, List.length_cons]
    rw [List.length_cons] at S1 hc
    rw [List.map_cons, verL] at hV
    obtain ⟨b, o, rfl, hu⟩ := hM.at (by simp)
    have c0 := hu 0 r rfl
    obtain ⟨h1, h2, h3⟩ := hM.1 0 r rfl
    obtain ⟨hf1, hf2⟩ := hF r (by simp)
    have h3' := h3
    obtain ⟨b2, o2, e, hu2⟩ := h3.at hf1
    rw [e, Nat.add_zero] at c0
    rw [e] at h3'
    have CD := count_digit (some ⟨b2, o2, none⟩) r.t r.t.length r.c w rfl (by omega) h3'
    have hdl := cnt_le digitP r.t
    have hl1 : ((R.length : Int) + 1 == 0) = false := by simp; omega
    have hl2 : (0 : Int) < (R.length : Int) + 1 := by omega
    have hl3 : (r.t.length : Int) ≤ 1000000 := by omega
    cases hcl : closesL (R.map (·.t)) with
    | false =>
      rw [hcl] at CL
      rw [if_pos hcl, dirV_none] at hV
      subst hV
      generalize R.length = Rl at *
      clear hu hu2 h3 h3' hM hM1 hF e CD c0 hcl
      go_enter Try.func31, Try.ntmps31
      go_wp2_with (first | (go_at_call 53; refine CL.mono ?_; rintro e w ⟨rfl, rfl⟩))
      refine bodyPost_ret (results_tmp4 rfl _ _ _) rfl ?_
      exact ⟨rfl, Below.refl _ _⟩
    | true =>
      rw [hcl] at CL
      rw [if_neg (by rw [hcl]; simp)] at hV
      generalize R.length = Rl at *
      generalize hd : cnt digitP r.t = d at *
      clear hd hM hM1 hF hu hcl e
      by_cases z1 : d = 0
      · rw [if_pos (.inl z1), dirV_none] at hV
        subst hV
        subst z1
        have e0 : ((0 : Nat) : Int) = 0 := rfl
        rw [e0] at CD
        clear hu2 h3 h3'
        go_enter Try.func31, Try.ntmps31
        go_wp2_with (first | (go_at_call 53; refine CL.mono ?_; rintro e w ⟨rfl, rfl⟩) | (go_at_call 21; refine CD.mono ?_; rintro e w ⟨rfl, rfl⟩))
        refine bodyPost_ret (results_tmp4 rfl _ _ _) rfl ?_
        exact ⟨rfl, Below.refl _ _⟩
      have z1' : ((d : Int) == 0) = false := by simpa using z1
      by_cases z2 : d = r.t.length
      · rw [if_pos (.inr (.inl z2)), dirV_none] at hV
        subst hV
        have z2' : ((d : Int) == (r.t.length : Int)) = true := by simp; omega
        clear hu2 h3 h3' z2
        go_enter Try.func31, Try.ntmps31
        go_wp2_with (first | (go_at_call 53; refine CL.mono ?_; rintro e w ⟨rfl, rfl⟩) | (go_at_call 21; refine CD.mono ?_; rintro e w ⟨rfl, rfl⟩))
        refine bodyPost_ret (results_tmp4 rfl _ _ _) rfl ?_
        exact ⟨rfl, Below.refl _ _⟩
      have z2' : ((d : Int) == (r.t.length : Int)) = false := by simp; omega
      have z2'' : (d : Int) < r.t.length := by omega
      have cd := hu2 d (by omega)
      by_cases z3 : iAt r.t d = 46
      rotate_left
      · rw [if_pos (.inr (.inr z3)), dirV_none] at hV
        subst hV
        have z3' : (iAt r.t d == 46) = false := by simpa using z3
        have z3'' : (iAt r.t d != 46) = true := by simpa using z3
        generalize iAt r.t d = x at cd z3' z3''
        clear hu2 h3 h3' z1 z2 z3
        go_enter Try.func31, Try.ntmps31
        go_wp2_with (first | (go_at_call 53; refine CL.mono ?_; rintro e w ⟨rfl, rfl⟩) | (go_at_call 21; refine CD.mono ?_; rintro e w ⟨rfl, rfl⟩))
        refine bodyPost_ret (results_tmp4 rfl _ _ _) rfl ?_
        exact ⟨rfl, Below.refl _ _⟩
      rw [z3] at cd
      rw [if_neg (fun h => by rcases h with h | h | h; exact z1 h; exact z2 h; exact h z3)] at hV
      have S3 := slice_to (some ⟨b2, o2, none⟩) r.t.length r.c d (by omega)
      obtain ⟨d1, hd1⟩ : ∃ d1, d + 1 = d1 := ⟨_, rfl⟩
      rw [hd1] at hV
      have ed : (d : Int) + 1 = (d1 : Nat) := by omega
      obtain ⟨p2, S4, hI4⟩ := cut_from h3' h1 d1 d1 rfl (by omega)
      have CM := fun (W : World) (hW : Below w.heap.size w W) => count_digit p2 (r.t.drop d1) (r.t.length - d1) (r.c - d1) W (by simp) (by simp; omega) (hI4.on hW)
      have hml := cnt_le digitP (r.t.drop d1)
      simp at hml
      have T1 := fun (W : World) (hW : Below w.heap.size w W) => text_any (some ⟨b2, o2, none⟩) (r.t.take d) d r.c W (by simp; omega) (by simp; omega) ((h3'.on hW).take _)
      have T2 := fun (W : World) (hW : Below w.heap.size w W) => text_any p2 (r.t.drop d1) (r.t.length - d1) (r.c - d1) W (by simp) (by simp; omega) (hI4.on hW)
      generalize txt (r.t.take d) = x1 at T1 hV
      generalize txt (r.t.drop d1) = x2 at T2 hV
      generalize cnt digitP (r.t.drop d1) = m at *
      obtain ⟨ml, hmd⟩ : ∃ ml, r.t.length - d1 = ml := ⟨_, rfl⟩
      rw [hmd] at S4 CM T2 hV hml
      clear hu2 h3 h3' hI4 z1 z2 z3
      have hz : (r.t.length = d1) ↔ ml = 0 := by omega
      by_cases z4 : ml = 0
      · rw [if_pos (.inl (hz.2 z4)), dirV_none] at hV
        subst hV
        subst z4
        have e0 : ((0 : Nat) : Int) = 0 := rfl
        clear hz hmd hd1
        go_enter Try.func31, Try.ntmps31
        go_wp2_with fail
        refine CL.mono ?_; rintro e w ⟨rfl, rfl⟩
        go_wp2_with fail
        refine CD.mono ?_; rintro e w ⟨rfl, rfl⟩
        go_wp2_with fail
        go_quiet (fail)
        have hBq := below_drewN w nq
        generalize w.drewN nq = W1 at hBq ⊢
        go_wp2
        refine bodyPost_ret (results_tmp4 rfl _ _ _) rfl ?_
        exact ⟨rfl, hBq⟩
      have z4' : ((ml : Int) == 0) = false := by simpa using z4
      have hml2 : (ml : Int) ≤ 1000000 := by omega
      by_cases z5 : m < ml
      · rw [if_pos (.inr z5), dirV_none] at hV
        subst hV
        have z5' : (m : Int) < ml := by omega
        clear hz hmd hd1
        go_enter Try.func31, Try.ntmps31
        go_wp2_with fail
        refine CL.mono ?_; rintro e w ⟨rfl, rfl⟩
        go_wp2_with fail
        refine CD.mono ?_; rintro e w ⟨rfl, rfl⟩
        go_wp2_with fail
        go_quiet (fail)
        have hBq := below_drewN w nq
        generalize w.drewN nq = W1 at hBq ⊢
        go_wp2_with (first | (go_at_call 21; refine (CM _ hBq).mono ?_; rintro e W1 ⟨rfl, rfl⟩))
        refine bodyPost_ret (results_tmp4 rfl _ _ _) rfl ?_
        exact ⟨rfl, hBq⟩
      · rw [if_neg (fun h => by rcases h with h | h; exact z4 (hz.1 h); exact z5 h), dirV_some] at hV
        subst hV
        have z5' : ¬ (m : Int) < ml := by omega
        clear hz hmd hd1
        go_enter Try.func31, Try.ntmps31
        go_wp2_with fail
        refine CL.mono ?_; rintro e w ⟨rfl, rfl⟩
        go_wp2_with fail
        refine CD.mono ?_; rintro e w ⟨rfl, rfl⟩
        go_wp2_with fail
        go_quiet (fail)
        have hBq := below_drewN w nq
        generalize w.drewN nq = W1 at hBq ⊢
        go_wp2_with fail
        refine (CM _ hBq).mono ?_; rintro e W1 ⟨rfl, rfl⟩
        go_wp2_with fail
        refine (T1 _ hBq).mono ?_; rintro e W2 ⟨rfl, hB2⟩
        have hB2 := hBq.trans (hB2.mono hBq.size)
        go_wp2_with fail
        refine (T2 _ hB2).mono ?_; rintro e W3 ⟨rfl, hB3⟩
        go_wp2
        refine bodyPost_ret (results_tmp4 rfl _ _ _) rfl ?_
        exact ⟨rfl, hB2.trans (hB3.mono hB2.size)⟩
end Go.Proofs.Ytgldejcneglpnaa
