/- Directive and the document's own tell the same: prefixes, and the whole. -/
import Derived.Test.YtgldejcneglpnaaDeq
set_option linter.unusedVariables false
set_option linter.unusedSimpArgs false
namespace Go.Proofs.Ytgldejcneglpnaa
open Go

theorem runE_agree {n n' : Nat → Nat} {a m L : Nat} (hb : Bd n L) (hb' : Bd n' m) (h : ∀ j, j ≤ m → n' j = n (a + j)) : ∀ f k, k ≤ m → m - k ≤ f → runE n L (a + k) = a + runE n' m k := by
  intro f
  induction f with
  | zero =>
    intro k hk hf
    have h0 : n' k = 0 := by rcases hb' k with h | h <;> omega
    rw [runE_stop h0, runE_stop (by rw [← h k hk]; exact h0)]
  | succ f ih =>
    intro k hk hf
    by_cases h0 : n' k = 0
    · rw [runE_stop h0, runE_stop (by rw [← h k hk]; exact h0)]
    · have h1 : n (a + k) ≠ 0 := by rw [← h k hk]; exact h0
      have h2 : k + n' k ≤ m := by rcases hb' k with h | h <;> omega
      rw [← runE_step hb h1, ← runE_step hb' h0, ← h k hk, Nat.add_assoc]
      exact ih (k + n' k) h2 (by omega)

theorem uN_piece {t : List Int} {s e j : Nat} (h : Pt t s e) (hj : j ≤ e - s) : uN (piece t s e) j = uN t (s + j) := by
  have hle := h.le
  have hlt := h.lt
  by_cases h1 : s + j < e
  · have hL : uN (piece t s e) j = if uriP (iAt t (s + j)) = true then 1 else if iAt t (s + j) = 37 ∧ j + 2 < e - s ∧ hexOk (iAt (piece t s e) (j + 1)) = true ∧ hexOk (iAt (piece t s e) (j + 2)) = true then 3 else 0 := by
      unfold uN
      rw [piece_len h.lt, piece_at h1, if_neg (by omega : ¬ e - s ≤ j)]
    have hR : uN t (s + j) = if uriP (iAt t (s + j)) = true then 1 else if iAt t (s + j) = 37 ∧ s + j + 2 < t.length ∧ hexOk (iAt t (s + j + 1)) = true ∧ hexOk (iAt t (s + j + 2)) = true then 3 else 0 := by
      unfold uN
      rw [if_neg (by omega : ¬ t.length ≤ s + j)]
    rw [hL, hR]
    by_cases hu : uriP (iAt t (s + j)) = true
    · rw [if_pos hu, if_pos hu]
    · rw [if_neg hu, if_neg hu]
      by_cases h2 : s + j + 2 < e
      · rw [piece_at (by omega), piece_at (by omega)]
        have e1 : (j + 2 < e - s) = True := eq_true (by omega)
        have e2 : (s + j + 2 < t.length) = True := eq_true (by omega)
        simp only [e1, e2, ← Nat.add_assoc]
      · have n1 : ¬ (iAt t (s + j) = 37 ∧ j + 2 < e - s ∧ hexOk (iAt (piece t s e) (j + 1)) = true ∧ hexOk (iAt (piece t s e) (j + 2)) = true) := fun h => by omega
        have n2 : ¬ (iAt t (s + j) = 37 ∧ s + j + 2 < t.length ∧ hexOk (iAt t (s + j + 1)) = true ∧ hexOk (iAt t (s + j + 2)) = true) := by
          rintro ⟨a1, a2, a3, a4⟩
          by_cases h3 : s + j + 1 = e
          · have := h.yes (by omega)
            rw [← h3, hex_no a3] at this
            cases this
          · have h4 : s + j + 2 = e := by omega
            have := h.yes (by omega)
            rw [← h4, hex_no a4] at this
            cases this
        rw [if_neg n1, if_neg n2]
  · have h2 : s + j = e := by omega
    unfold uN
    rw [if_pos (by rw [piece_len h.lt]; omega), h2]
    by_cases h3 : e < t.length
    · have hy := h.yes h3
      rw [if_neg (by omega), uri_no hy, if_neg (by simp), if_neg (fun h => (blank_ne hy).2.2.1 h.1)]
    · rw [if_pos (by omega)]
theorem run_piece {t : List Int} {s e : Nat} (h : Pt t s e) : runE (uN t) t.length s = s + runE (uN (piece t s e)) (piece t s e).length 0 := by
  have hb := uN_bd (piece t s e)
  rw [piece_len h.lt] at hb ⊢
  have := runE_agree (a := s) (m := e - s) (uN_bd t) hb (fun j hj => uN_piece h hj) (e - s) 0 (Nat.zero_le _) (by omega)
  rw [Nat.add_zero] at this
  exact this

theorem only_eq {t : List Int} {s e : Nat} (h : Pt t s e) (hl : s < e) : onlyP (piece t s e) = decide (runE (uN t) t.length s = e) := by
  unfold onlyP
  rw [run_piece h]
  have := piece_len (s := s) h.lt
  rw [this]
  rw [Bool.eq_iff_iff, decide_eq_true_iff, decide_eq_true_iff]
  omega
theorem run_in {t : List Int} {s e : Nat} (h : Pt t s e) : runE (uN t) t.length s ≤ e := by
  rw [run_piece h]
  have h1 := runE_le (uN_bd (piece t s e)) (Nat.zero_le (piece t s e).length)
  rw [piece_len h.lt] at h1 ⊢
  have := h.le
  omega

theorem wE_cnt (t : List Int) (k : Nat) : wE t k = k + cnt wordP (t.drop k) := cnt_drop wordP t k
theorem handle_eq {t : List Int} {s e : Nat} (h : Pt t s e) (hl : s < e) : hdB (piece t s e) = rhB t s ∧ s + hdP (piece t s e) = rkP t s ∧ rkP t s ≤ e ∧ wE t (s + 1) ≤ e := by
  have hp1 : Pt t (s + 1) e := h.from (by omega) (by omega)
  have hw : s + wrE (piece t s e) = wE t (s + 1) := by
    unfold wrE
    rw [cnt_drop, piece_drop, cnt_piece word_no hp1, wE_cnt]
    omega
  have hwe : wE t (s + 1) ≤ e := by rw [wE_cnt]; exact cnt_in word_no hp1
  have hle := h.lt
  have hB : hdB (piece t s e) = rhB t s := by
    unfold hdB rhB
    rw [piece_len h.lt]
    by_cases h1 : wE t (s + 1) < e
    · rw [piece_at (by omega), hw]
      rw [Bool.eq_iff_iff, decide_eq_true_iff, decide_eq_true_iff]
      omega
    · rw [decide_eq_false (fun h => by omega)]
      refine (decide_eq_false (fun ⟨a1, a2⟩ => ?_)).symm
      have h2 : wE t (s + 1) = e := by omega
      rw [h2] at a1 a2
      exact (blank_ne (h.yes a1)).1 a2
  refine ⟨hB, ?_, ?_, hwe⟩
  · unfold hdP rkP
    rw [hB]
    split <;> omega
  · unfold rkP
    split
    · rename_i h1
      unfold rhB at h1
      obtain ⟨a1, a2⟩ := of_decide_eq_true h1
      by_cases h2 : wE t (s + 1) = e
      · rw [h2] at a1 a2
        exact absurd a2 (blank_ne (h.yes a1)).1
      · omega
    · omega

theorem pref_none {t : List Int} {e s : Nat} (hs : bE t e = s) (h : iAt t s ≠ 33 ∨ (rhB t s = false ∧ s + 1 < wE t (s + 1)) ∨ rpfP t s = none) : rprefP t e = none := by
  unfold rprefP
  rw [hs]
  split
  · rfl
  · rename_i h1
    split
    · rfl
    · rename_i h2
      rcases h with h | h | h
      · exact absurd (.inr (.inr h)) h1
      · exact absurd h h2
      · exact h

theorem pref_eq {t : List Int} {e : Nat} (he : e ≤ t.length) (hb : e < t.length → blankP (iAt t e) = true) : prefL (((prE t e).take 3).map fun x => piece t x.1 x.2) = rprefP t e := by
  by_cases h1 : bE t e = e
  · have h2 : ¬ e < t.length := fun h => by have := bE_gt h (hb h); omega
    rw [prE_stop (by omega)]
    unfold rprefP
    rw [if_pos (.inl h1)]
    rfl
  by_cases h2 : bE t e < t.length
  rotate_left
  · rw [prE_stop h2]
    unfold rprefP
    rw [if_pos (.inr (.inl (by omega)))]
    rfl
  obtain ⟨s, hs⟩ : ∃ s, bE t e = s := ⟨_, rfl⟩
  have hp := pt_nE (t := t) (s := s) (by omega)
  have hgt : s < nE t s := by have := nE_gt h2; rw [hs] at this; exact this
  rw [prE_step h2, hs, List.take_succ_cons, List.map_cons]
  dsimp only
  rw [hs] at h1 h2
  obtain ⟨hB, hk, hke, hwe⟩ := handle_eq hp hgt
  generalize nE t s = e1 at *
  have hlt := hp.lt
  have hk1 : s + 1 ≤ rkP t s := by
    unfold rkP
    have := wE_ge t (s + 1)
    split <;> omega
  have hin : rkP t s < e1 → rpfP t s = none := fun h => by
    have h7 := hp.no (rkP t s) (by omega) h
    unfold rpfP
    rw [if_pos (.inl (bE_eq (fun _ => h7)))]
  by_cases h3 : bE t e1 < t.length
  rotate_left
  · rw [prE_stop h3]
    symm
    refine pref_none hs (.inr (.inr ?_))
    by_cases h4 : rkP t s < e1
    · exact hin h4
    · have h5 : rkP t s = e1 := by omega
      have h6 := bE_le hlt
      unfold rpfP
      have h7 : bE t e1 = t.length := by omega
      have h8 : runE (uN t) t.length (bE t e1) = bE t e1 := runE_stop (by rw [h7]; unfold uN; rw [if_pos (Nat.le_refl _)])
      rw [h5, if_pos (.inr (.inl h8))]
  have hp2 := pt_nE (t := t) (s := bE t e1) (by omega)
  have hgt2 := nE_gt h3
  rw [prE_step h3, List.take_succ_cons, List.map_cons, prefL]
  dsimp only
  have hcl := closes_cl (t := t) (e := nE t (bE t e1)) (j := 0) hp2.lt
  rw [hcl, piece_at (by omega), Nat.add_zero, piece_len hlt]
  have hon := only_eq hp2 hgt2
  have hri := run_in hp2
  have hrg := runE_ge (uN t) t.length (bE t e1)
  have htl := tail_cl hp2.lt hp2.yes
  have he1 : e1 < t.length := by have := bE_ge t e1; omega
  have hbg := bE_gt he1 (hp.yes he1)
  rw [hon]
  by_cases z1 : iAt t s = 33
  rotate_left
  · refine (if2_none (.inr (.inl z1))).trans (pref_none hs (.inl z1)).symm
  by_cases z2 : rkP t s < e1
  · refine (if2_none (.inr (.inr (.inl (by omega))))).trans (pref_none hs (.inr (.inr (hin z2)))).symm
  have z2' : rkP t s = e1 := by omega
  have hR : rprefP t e = rpfP t s := by
    unfold rprefP
    rw [hs, if_neg (fun h => by rcases h with h | h | h; exact h1 h; omega; exact h z1), if_neg ?_]
    rintro ⟨a1, a2⟩
    unfold rkP at z2'
    rw [a1] at z2'
    simp at z2'
    omega
  rw [hR]
  unfold rpfP
  rw [z2']
  have hp3 := hp2.lt
  have hno : ∀ j, bE t e1 ≤ j → j < nE t (bE t e1) → blankP (iAt t j) = false := hp2.no
  obtain ⟨s2, hs2⟩ : ∃ s2, bE t e1 = s2 := ⟨_, rfl⟩
  rw [hs2] at hp2 hgt2 hri hrg htl hbg hp3 hno h3 ⊢
  generalize nE t s2 = e2 at *
  generalize runE (uN t) t.length s2 = g at *
  by_cases z3 : g = e2
  rotate_left
  · refine (if2_none (.inr (.inr (.inr (decide_eq_false z3))))).trans (if_pos ?_).symm
    by_cases z4 : g = s2
    · exact .inr (.inl z4)
    · exact .inr (.inr (tail_no (by omega) (hno g (by omega) (by omega))))
  subst z3
  rw [htl]
  cases hcv : clP t g with
  | false => exact (if2_none (.inl rfl)).trans (if_pos (.inr (.inr rfl))).symm
  | true =>
    refine (if2_some (by simp) (fun h => by rcases h with h | h | h; exact h z1; omega; simp at h)).trans (if_neg (fun h => by rcases h with h | h | h; omega; omega; cases h)).symm

theorem txt_ne {t : List Int} (h : 0 < t.length) : txt t ≠ ⟨#[]⟩ := by
  intro e
  cases t with
  | nil => simp at h
  | cons c t =>
    have h1 : encZ (c :: t) = Lib.encodeRuneZ (fixP c) ++ encZ t := rfl
    have h2 : 0 < (Lib.encodeRuneZ (fixP c)).length := by
      unfold Lib.encodeRuneZ
      repeat' split
      all_goals simp
    unfold txt strB at e
    have e2 : (List.map (fun x : Int => UInt8.ofNat x.toNat) (encZ (c :: t))).toArray = #[] := ByteArray.mk.inj e
    have e3 := congrArg Array.size e2
    rw [h1] at e3
    simp at e3
    rw [e3.1] at h2
    simp at h2

theorem dir_eq (t : List Int) : dirP t = rdirP t := by
  unfold dirP rdirP
  by_cases h : t.length = 0 ∨ iAt t 0 ≠ 37
  · rw [if_pos h, if_pos h]
  rw [if_neg h, if_neg h]
  have h0 : 0 < t.length := by
    by_cases h1 : t.length = 0
    · exact absurd (.inl h1) h
    · omega
  have h37 : iAt t 0 = 37 := by
    by_cases h1 : iAt t 0 = 37
    · exact h1
    · exact absurd (.inr h1) h
  clear h
  have hb0 : bE t 0 = 0 := bE_eq (fun _ => by rw [h37]; decide)
  have hst := prE_step (t := t) (k := 0) (by rw [hb0]; exact h0)
  have hgt := nE_gt (t := t) (k := 0) (by rw [hb0]; exact h0)
  rw [hb0] at hst hgt
  have hp := pt_nE (t := t) (s := 0) (Nat.zero_le _)
  have hpl : prL t = piece t 0 (nE t 0) :: ((prE t (nE t 0)).take 3).map fun x => piece t x.1 x.2 := by
    unfold prL
    rw [hst]
    rfl
  rw [hpl, dirL, piece_drop, Nat.zero_add]
  have hp1 : Pt t 1 (nE t 0) := hp.from (by omega) (by omega)
  rw [cnt_piece name_no hp1, piece_len hp1.lt]
  have hin := cnt_in name_no hp1
  have hN : dnN t = 1 + cnt nameP (t.drop 1) := rfl
  have hD : dnB t = txt ((t.drop 1).take (dnN t - 1)) := rfl
  rw [← hN] at hin
  have hc : cnt nameP (t.drop 1) = dnN t - 1 := by omega
  rw [hc]
  have hver := ver_eq hp.lt hp.yes
  have hprf := pref_eq hp.lt hp.yes
  rw [hver, hprf]
  have hyes := hp.yes
  have hno := hp.no
  have hlt := hp.lt
  generalize nE t 0 = e0 at *
  have hN1 : 1 ≤ dnN t := by omega
  by_cases z1 : dnN t < e0
  · rw [if_pos (.inr (by omega))]
    have hb : blankP (iAt t (dnN t)) = false := hno _ (by omega) z1
    have hbe : bE t (dnN t) = dnN t := bE_eq (fun _ => hb)
    split
    · rfl
    · split
      · unfold rverP
        rw [if_pos (.inl hbe)]
      · split
        · unfold rprefP
          rw [if_pos (.inl hbe)]
        · rw [if_pos ⟨by omega, hb⟩]
  have z2 : dnN t = e0 := by omega
  have hpc : piece t 1 e0 = (t.drop 1).take (dnN t - 1) := by unfold piece; rw [z2]
  rw [hpc, ← hD]
  by_cases z3 : e0 = 1
  · rw [if_pos (.inl (by omega))]
    have hx : dnB t = ⟨#[]⟩ := by rw [hD, z2, z3]; rfl
    rw [if_pos hx]
  rw [if_neg (fun h => by rcases h with h | h <;> omega)]
  have hx : dnB t ≠ ⟨#[]⟩ := by
    rw [hD]
    exact txt_ne (by simp; omega)
  rw [if_neg hx, z2]
  split
  · rfl
  · split
    · rfl
    · rw [if_neg (fun ⟨a1, a2⟩ => by rw [hyes a1] at a2; cases a2)]
end Go.Proofs.Ytgldejcneglpnaa
