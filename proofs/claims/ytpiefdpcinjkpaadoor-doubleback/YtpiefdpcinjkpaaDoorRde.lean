/- The two ways of reading, in plain terms, say the same. -/
import Derived.Test.YtpiefdpcinjkpaaDoorRdq
set_option linter.unusedVariables false
set_option linter.unusedSimpArgs false
namespace Go.Proofs.YtpiefdpcinjkpaaDoor
open Go.RowKit Go.Shelf

theorem it_dropF (last : Bool) : ∀ t : List Int, itP last 0 (dropF t) = (itP last 0 t).dropWhile softI ∧ flP last 0 (dropF t) = flP last 0 t
  | [] => ⟨rfl, rfl⟩
  | c :: r => by
    obtain ⟨h1, h2⟩ := it_dropF last r
    unfold dropF at h1 h2 ⊢
    rw [List.dropWhile_cons]
    by_cases hc : blankP c = true
    · have h92 : c ≠ 92 := by rintro rfl; exact absurd hc (by decide)
      rw [if_pos hc, h1, h2, itP, flP, if_neg h92, if_neg h92, List.dropWhile_cons, if_pos (show softI (c, false) = true from by simp [softI, hc])]
      exact ⟨rfl, rfl⟩
    · rw [if_neg hc]
      refine ⟨?_, rfl⟩
      rw [itP]
      split
      · rw [List.dropWhile_cons, if_neg (by simp [softI])]
      · rw [List.dropWhile_cons, if_neg (by simp [softI, hc])]
theorem it_lnT (last o : Bool) (t : List Int) : itP last 0 (lnT o t) = frI o (itP last 0 t) ∧ flP last 0 (lnT o t) = flP last 0 t := by
  unfold lnT frI
  cases o with
  | false => exact ⟨rfl, rfl⟩
  | true => exact it_dropF last t
theorem flAt_eq (ls : List (List Int)) (k : Nat) : flAt ls k = flP (decide (k + 1 = ls.length)) 0 (lAt ls k) := (it_lnT _ _ _).2

theorem it_parts (last : Bool) (t : List Int) (hf : flP last 0 t = 0) : itP last 0 t = uP last t ++ (if onP last t then [(-1, true)] else []) ∧ (∀ x ∈ uP last t, keepI x = true) ∧ (last = true → onP last t = false) := by
  obtain ⟨h1, h2⟩ := itP_end last t 0 hf
  unfold uP onP
  cases ho : opnI false (itP last 0 t) with
  | false =>
    simp only [Bool.false_eq_true, if_false, List.append_nil]
    exact ⟨trivial, h2 false ho, fun _ => trivial⟩
  | true =>
    rcases h1 false ho with ⟨e, -⟩ | ⟨u, e, hk, hl⟩
    · cases e
    · rw [e]
      simp only [if_true, List.dropLast_concat]
      exact ⟨trivial, hk, fun h => by rw [hl] at h; cases h⟩

theorem opn_soft : ∀ (u : List Item) (o : Bool), opnI o (u.dropWhile softI) = opnI o u
  | [], _ => rfl
  | (c, h) :: u, o => by
    rw [List.dropWhile_cons]
    split
    · rename_i hs
      cases h with
      | true => simp [softI] at hs
      | false => exact opn_soft u o
    · rfl
theorem opn_fr (b : Bool) (u : List Item) : opnI false (frI b u) = opnI false u := by
  unfold frI
  cases b with
  | false => rfl
  | true => exact opn_soft u false

theorem fr_end (f : Bool) (C J : List Item) : frI f (C ++ (-1, true) :: J) = frI f C ++ (-1, true) :: J := by
  unfold frI
  cases f with
  | false => rfl
  | true =>
    simp only [if_true]
    rw [List.dropWhile_append]
    split
    · rename_i h
      rw [List.isEmpty_iff.1 h, List.dropWhile_cons, if_neg (by simp [softI])]
      rfl
    · rfl
theorem bk_end (C J : List Item) : bkI true (C ++ (-1, true) :: J) = C ++ (-1, true) :: bkI true J := by
  unfold bkI
  simp only [if_true]
  rw [List.reverse_append, List.reverse_cons, List.append_assoc, List.dropWhile_append]
  split
  · rename_i h
    rw [List.isEmpty_iff.1 h]
    simp [softI]
  · simp
theorem tr_eq (f b : Bool) (u : List Item) : trimI f b u = bkI b (frI f u) := by
  unfold trimI bkI frI
  rfl

def kp (u : List Item) : List Int := (u.filter keepI).map (·.1)
theorem kp_app (a b : List Item) : kp (a ++ b) = kp a ++ kp b := by simp [kp]
theorem kp_end : kp [(-1, true)] = [] := rfl
theorem kp_cons (J : List Item) : kp ((-1, true) :: J) = kp J := rfl
theorem end_app (C J : List Item) : C ++ [(-1, true)] ++ J = C ++ (-1, true) :: J := by simp
theorem kp_all {u : List Item} (h : ∀ x ∈ u, keepI x = true) : kp u = u.map (·.1) := by
  unfold kp
  rw [List.filter_eq_self.2 h]
theorem kp_sep (f : Bool) (e : Nat) : kp (sepJ f e) = (if f = true ∧ e = 0 then [32] else []) ++ List.replicate e 10 := by
  unfold sepJ
  split
  · rename_i h
    rw [h.2]; rfl
  · rw [kp_all (fun x hx => by rw [List.eq_of_mem_replicate hx]; rfl)]
    simp
theorem keep_fr {b : Bool} {u : List Item} (h : ∀ x ∈ u, keepI x = true) : ∀ x ∈ frI b u, keepI x = true := fun x hx => by
  unfold frI at hx
  split at hx
  · exact h x ((List.dropWhile_sublist softI).subset hx)
  · exact h x hx
theorem keep_bk {b : Bool} {u : List Item} (h : ∀ x ∈ u, keepI x = true) : ∀ x ∈ bkI b u, keepI x = true := fun x hx => by
  unfold bkI at hx
  split at hx
  · exact h x (List.mem_reverse.1 ((List.dropWhile_sublist softI).subset (List.mem_reverse.1 hx)))
  · exact h x hx

theorem flI_pre (L A B : List (List Item)) (ha : A ≠ []) (hb : B ≠ []) : ∀ k, k ≤ L.length → flI (L ++ A) k = flI (L ++ B) k
  | 0, _ => rfl
  | k + 1, hk => by
    have h1 : 0 < A.length := by cases A with | nil => exact absurd rfl ha | cons a A => simp
    have h2 : 0 < B.length := by cases B with | nil => exact absurd rfl hb | cons a A => simp
    rw [flI, flI, flI_pre L A B ha hb k (by omega)]
    have e1 : gAt (L ++ A) k = gAt (L ++ B) k := by
      unfold gAt
      rw [List.getElem?_append_left (by omega), List.getElem?_append_left (by omega)]
    rw [e1, decide_eq_true (show k + 1 < (L ++ A).length by rw [List.length_append]; omega), decide_eq_true (show k + 1 < (L ++ B).length by rw [List.length_append]; omega)]
def gI (L : List (List Item)) : List Item × Nat := flI (L ++ [[]]) L.length
theorem gI_snoc (L : List (List Item)) (J : List Item) : gI (L ++ [J]) = gstep (decide (0 < L.length)) true (gI L) J := by
  unfold gI
  rw [List.length_append, List.length_singleton, flI, List.append_assoc, flI_pre L ([J] ++ [[]]) [[]] (by simp) (by simp) L.length (Nat.le_refl _)]
  congr 1
  · rw [decide_eq_true (by simp)]
  · unfold gAt; simp
theorem flI_last (L : List (List Item)) (J : List Item) : flI (L ++ [J]) (L.length + 1) = gstep (decide (0 < L.length)) false (gI L) J := by
  rw [flI, flI_pre L [J] [[]] (by simp) (by simp) L.length (Nat.le_refl _)]
  unfold gI
  congr 1
  · rw [decide_eq_false (by simp)]
  · unfold gAt; simp

/-- Between two lines. -/
def Bet (s : Si) (r : Rs) (k : Nat) : Prop :=
  s.o = r.jn ∧
  (r.jn = false → s.C = [] ∧ r.out = kp (gI s.L).1 ∧ r.em = (gI s.L).2 ∧ decide (0 < s.L.length) = decide (0 < k)) ∧
  (r.jn = true → 0 < k ∧ r.em = 0 ∧ ∃ C, s.C = C ++ [(-1, true)] ∧ r.out = kp ((gI s.L).1 ++ sepJ (decide (0 < s.L.length)) (gI s.L).2 ++ frI (decide (0 < s.L.length)) s.C))

theorem siNext_eq (s : Si) (t : List Int) (last : Bool) : siNext s t last = if onP last t then ⟨s.L, s.C ++ frI s.o (itP last 0 t), true⟩ else ⟨s.L ++ [s.C ++ frI s.o (itP last 0 t)], [], false⟩ := by
  unfold siNext onP
  rw [(it_lnT last s.o t).1, opn_fr]

theorem bet_mid {s : Si} {r : Rs} {k n : Nat} {t : List Int} (h : Bet s r k) (hk : k + 1 < n) (hf : flP (decide (k + 1 = n)) 0 t = 0) :
    Bet (siNext s t (decide (k + 1 = n))) (rsNext r k n t) (k + 1) := by
  obtain ⟨h1, h2, h3⟩ := it_parts _ t hf
  have hrs := rfl (a := rsNext r k n t)
  rw [siNext_eq]
  unfold rsNext ruP
  rw [h1]
  generalize uP (decide (k + 1 = n)) t = u at *
  generalize onP (decide (k + 1 = n)) t = on at *
  rw [decide_eq_true hk, Bool.true_and]
  obtain ⟨b1, b2, b3⟩ := h
  obtain ⟨out, em, jn⟩ := r
  obtain ⟨L, C, o⟩ := s
  dsimp only at b1 b2 b3 ⊢
  subst b1
  cases o with
  | false =>
    obtain ⟨rfl, rfl, rfl, c4⟩ := b2 rfl
    cases on with
    | false =>
      simp only [Bool.false_eq_true, if_false, List.append_nil, List.nil_append, Bool.not_false, and_true]
      have hfr : frI false u = u := rfl
      rw [hfr, ← c4]
      have hL1 : decide (0 < (L ++ [u]).length) = decide (0 < k + 1) := by simp
      have hg := gI_snoc L u
      unfold gstep at hg
      rw [tr_eq] at hg
      have hkk : (0 < k) = (decide (0 < L.length) = true) := by rw [c4]; simp
      have hK := keep_bk (b := true) (keep_fr (b := decide (0 < L.length)) h2)
      generalize bkI true (frI (decide (0 < L.length)) u) = ru at hg hK ⊢
      by_cases hc : decide (0 < L.length) = true ∧ ru = []
      · rw [if_pos ⟨hc.1, rfl, hc.2⟩] at hg
        rw [if_pos ⟨hkk ▸ hc.1, hk, hc.2⟩]
        exact ⟨rfl, fun _ => ⟨rfl, by rw [hg], by rw [hg], hL1⟩, fun e => by cases e⟩
      · rw [if_neg (fun e => hc ⟨e.1, e.2.2⟩)] at hg
        rw [if_neg (fun e => hc ⟨hkk ▸ e.1, e.2.2⟩)]
        refine ⟨rfl, fun _ => ⟨rfl, ?_, by rw [hg], hL1⟩, fun e => by cases e⟩
        dsimp only
        rw [hg, kp_app, kp_app, kp_sep, kp_all hK]
        simp only [hkk, true_and, List.append_assoc]
    | true =>
      simp only [if_true, Bool.true_eq_false, and_false, false_and, if_false, Bool.not_true, and_true, List.nil_append]
      refine ⟨rfl, fun e => (by cases e), fun _ => ⟨by omega, rfl, u, rfl, ?_⟩⟩
      dsimp only
      have hfr : frI false (u ++ [(-1, true)]) = u ++ [(-1, true)] := rfl
      have hkk : (0 < k) = (decide (0 < L.length) = true) := by rw [c4]; simp
      rw [hfr, fr_end, kp_app, kp_app, kp_app, kp_end, kp_sep, kp_all (keep_fr h2), ← c4]
      simp only [hkk, true_and, List.append_assoc, List.append_nil]
      rfl
  | true =>
    obtain ⟨hk0, rfl, C, rfl, rfl⟩ := b3 rfl
    cases on with
    | false =>
      simp only [Bool.false_eq_true, if_false, List.append_nil, Bool.not_false, Bool.true_eq_false, and_false, false_and, and_true]
      rw [end_app]
      have hL1 : decide (0 < (L ++ [C ++ (-1, true) :: frI true u]).length) = decide (0 < k + 1) := by simp
      have hg := gI_snoc L (C ++ (-1, true) :: frI true u)
      unfold gstep at hg
      rw [tr_eq, fr_end, bk_end, if_neg (by simp)] at hg
      refine ⟨rfl, fun _ => ⟨rfl, ?_, by rw [hg], hL1⟩, fun e => by cases e⟩
      dsimp only
      rw [hg, decide_eq_true hk0, fr_end]
      simp only [List.replicate_zero, List.append_nil, List.nil_append, kp_app, kp_cons]
      rw [kp_all (keep_bk (keep_fr h2))]
      simp only [kp_end, List.append_assoc, List.nil_append, List.append_nil]
      try rfl
    | true =>
      simp only [if_true, Bool.true_eq_false, and_false, false_and, if_false, Bool.not_true, and_true]
      refine ⟨rfl, fun e => (by cases e), fun _ => ⟨by omega, rfl, C ++ [(-1, true)] ++ frI true u, ?_, ?_⟩⟩
      · rw [fr_end]; simp
      · dsimp only
        rw [fr_end true, end_app, fr_end, fr_end, decide_eq_true hk0]
        have hb0 : bkI false (frI true u) = frI true u := rfl
        rw [hb0]
        simp only [List.replicate_zero, List.append_nil, List.nil_append, kp_app, kp_cons]
        rw [kp_all (keep_fr h2)]
        simp only [kp_end, show kp [] = [] from rfl, List.append_assoc, List.nil_append, List.append_nil]

theorem bet_last {s : Si} {r : Rs} {k n : Nat} {t : List Int} (h : Bet s r k) (hk : k + 1 = n) (hf : flP (decide (k + 1 = n)) 0 t = 0) :
    kp (flI (siNext s t (decide (k + 1 = n))).L (siNext s t (decide (k + 1 = n))).L.length).1 = (rsNext r k n t).out := by
  obtain ⟨h1, h2, h3⟩ := it_parts _ t hf
  rw [siNext_eq]
  unfold rsNext ruP
  rw [h1, h3 (decide_eq_true hk)]
  generalize uP (decide (k + 1 = n)) t = u at *
  have hkn : ¬ k + 1 < n := by omega
  rw [decide_eq_false hkn, Bool.false_and]
  obtain ⟨b1, b2, b3⟩ := h
  obtain ⟨out, em, jn⟩ := r
  obtain ⟨L, C, o⟩ := s
  dsimp only at b1 b2 b3 ⊢
  subst b1
  simp only [Bool.false_eq_true, if_false, List.append_nil, hkn, false_and, and_false]
  rw [List.length_append, List.length_singleton, flI_last]
  unfold gstep
  rw [if_neg (by simp), tr_eq]
  have hb0 : ∀ x, bkI false x = x := fun _ => rfl
  rw [hb0, hb0]
  cases o with
  | false =>
    obtain ⟨rfl, rfl, rfl, c4⟩ := b2 rfl
    have hfr : frI false u = u := rfl
    have hkk : (0 < k) = (decide (0 < L.length) = true) := by rw [c4]; simp
    rw [List.nil_append, hfr, ← c4, kp_app, kp_app, kp_sep, kp_all (keep_fr h2)]
    simp only [hkk, true_and, List.append_assoc]
  | true =>
    obtain ⟨hk0, rfl, C, rfl, rfl⟩ := b3 rfl
    rw [decide_eq_true hk0, end_app, fr_end, fr_end]
    simp only [Bool.true_eq_false, false_and, and_false, if_false, List.replicate_zero, List.append_nil, List.nil_append, kp_app, kp_cons]
    rw [kp_all (keep_fr h2)]
    simp only [kp_end, List.append_assoc, List.nil_append, List.append_nil]
    try rfl

theorem bet_at (ls : List (List Int)) (h : ∀ j, j < ls.length → flP (decide (j + 1 = ls.length)) 0 (lAt ls j) = 0) : ∀ k, k < ls.length → Bet (siAt ls k) (rsAt ls k) k
  | 0, _ => ⟨rfl, fun _ => ⟨rfl, rfl, rfl, rfl⟩, fun e => by cases e⟩
  | k + 1, hk => bet_mid (bet_at ls h k (by omega)) hk (h k (by omega))
theorem readT_rs (ls : List (List Int)) (h : ∀ j, j < ls.length → flP (decide (j + 1 = ls.length)) 0 (lAt ls j) = 0) : readT ls = (rsAt ls ls.length).out := by
  cases hn : ls.length with
  | zero =>
    unfold readT
    rw [hn]
    rfl
  | succ n =>
    have hb := bet_last (bet_at ls h n (by omega)) hn.symm (h n (by omega))
    unfold readT
    rw [hn]
    show kp _ = _
    rw [siAt, rsAt]
    exact hb
theorem readE_zero {ls : List (List Int)} (h : readE ls = 0) : ∀ j, j < ls.length → flP (decide (j + 1 = ls.length)) 0 (lAt ls j) = 0 := fun j => by
  induction j using Nat.strongRecOn with
  | _ j ih =>
    intro hj
    by_cases hf : flP (decide (j + 1 = ls.length)) 0 (lAt ls j) = 0
    · exact hf
    · rw [readE_first hj (fun i hi => by rw [flAt_eq]; exact ih i hi (by omega)) (by rw [flAt_eq]; exact hf), flAt_eq] at h
      exact absurd h hf
end Go.Proofs.YtpiefdpcinjkpaaDoor
