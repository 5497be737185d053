/- BlockBack in plain terms, and the lines that it builds in memory. -/
import Derived.Test.YtgmcomfeggidnaaDtp
set_option linter.unusedVariables false
set_option linter.unusedSimpArgs false
namespace Go.Proofs.Ytgmcomfeggidnaa
open Go.RowKit Go.Shelf

/-- Each line, with an end behind it. -/
def linS (R : List Row) : Nat → List Int
  | 0 => []
  | k + 1 => linS R k ++ tAt R k ++ [10]
theorem linS_lit (R : List Row) : ∀ k, linS R k = litS R k ++ (if 0 < k then [10] else [])
  | 0 => rfl
  | k + 1 => by rw [linS, linS_lit R k, litS, if_pos (show 0 < k + 1 by omega)]
theorem linS_tail (R : List Row) : ∀ k, linS R k = linS R (wN R k) ++ List.replicate (k - wN R k) 10
  | 0 => rfl
  | k + 1 => by
    unfold wN
    split
    · rename_i h
      have hle := wN_le R k
      rw [linS, List.eq_nil_of_length_eq_zero h, List.append_nil]
      conv => lhs; rw [linS_tail R k]
      rw [List.append_assoc, ← List.replicate_succ', show k + 1 - wN R k = (k - wN R k) + 1 by omega]
    · simp
theorem whole_lines (R : List Row) : wholeT alwaysP R 2 = linS R R.length := by
  rw [whole_chomp, linS_tail, linS_lit, litS_wJ, wJ_last]
  have hle := wN_le R R.length
  generalize wN R R.length = n at hle
  rw [reps_neg _ _ (by split <;> omega), List.append_nil, List.append_assoc]
  congr 1
  unfold chN
  rw [if_pos rfl]
  by_cases h : 0 < n
  · rw [if_pos h, if_pos h, List.replicate_succ]; rfl
  · rw [if_neg h, if_neg h]; rfl

/-- How many blanks stand ahead. -/
def spN : List Int → Nat
  | [] => 0
  | x :: t => if x = 32 then spN t + 1 else 0
theorem sp_le : ∀ t, spN t ≤ t.length
  | [] => Nat.le_refl _
  | x :: t => by have := sp_le t; unfold spN; split <;> simp <;> omega
theorem sp_drop : ∀ t, List.replicate (spN t) 32 ++ t.drop (spN t) = t
  | [] => rfl
  | x :: t => by
    unfold spN
    split
    · rename_i h
      subst h
      rw [List.replicate_succ, List.drop_succ_cons, List.cons_append, sp_drop t]
    · rfl
theorem sp_eq (t : List Int) : ∀ k, k ≤ t.length → (∀ j, j < k → iAt t j = 32) → (k < t.length → iAt t k ≠ 32) → spN t = k := by
  induction t with
  | nil => intro k hk _ _; simp at hk; simp [spN, hk]
  | cons x t ih =>
    intro k hk h1 h2
    cases k with
    | zero => have := h2 (by simp); simp [iAt] at this; simp [spN, this]
    | succ k =>
      have h0 := h1 0 (by omega)
      simp [iAt] at h0
      have := ih k (by simp at hk; omega) (fun j hj => by have := h1 (j + 1) (by omega); rwa [iAt_cons_succ] at this) (fun hk2 => by have := h2 (by simp; omega); rwa [iAt_cons_succ] at this)
      simp [spN, h0, this]

/-- These lines are those texts, set in so far. -/
def SetIn (at_ : Int) (R : List Row) (k : Nat) (L : List Ln) : Prop := L.length = k ∧ ∀ (j : Nat) (x : Ln), L[j]? = some x → ∃ r, R[j]? = some r ∧ x.n = at_ + spN r.t ∧ x.t = r.t.drop (spN r.t)

theorem back_read {n more : Int} (hn : -1 ≤ n) (hm : 0 < more) {R : List Row} {L : List Ln} (hL : SetIn (max n 0 + more) R R.length L) (q : Option Addr) (c : Nat) :
    readV false 2 more n (L ++ [⟨0, q, [120], c⟩]) = .tuple #[.string (strB (encZ (linS R R.length))), .int .i64 (R.length : Nat), .int .i64 0] := by
  have hi : indP (L ++ [⟨0, q, [120], c⟩]) more (max n (-1)) = some (max n 0 + more) := by
    unfold indP
    rw [if_pos hm, show max (max n (-1)) 0 = max n 0 by omega]
  have hat : 0 < max n 0 + more := by omega
  generalize max n 0 + more = at_ at hL hi hat
  have htk : tkN at_ (L ++ [⟨0, q, [120], c⟩]) = R.length := by
    refine tk_eq _ _ _ (by simp [hL.1]) (fun j x hj hx => ?_) (fun x hx => ?_)
    · rw [List.getElem?_append_left (by rw [hL.1]; exact hj)] at hx
      obtain ⟨r, -, h1, h2⟩ := hL.2 j x hx
      have hm0 : markP x.n x.t = 0 := by unfold markP; rw [if_pos (by omega)]
      unfold endsP
      rw [hm0]
      have : ¬ x.n < at_ := by omega
      simp [this]
    · rw [List.getElem?_append_right (by rw [hL.1]; exact Nat.le_refl _), hL.1, Nat.sub_self] at hx
      cases hx
      simp [endsP, hat]
  have hpc : pcsP at_ (L ++ [⟨0, q, [120], c⟩]) = R.map (·.t) := by
    unfold pcsP
    rw [htk, List.take_left' hL.1]
    apply List.ext_getElem?
    intro j
    rw [List.getElem?_map, List.getElem?_map]
    cases hx : L[j]? with
    | none =>
      have := List.getElem?_eq_none_iff.1 hx
      rw [List.getElem?_eq_none (by rw [hL.1] at this; exact this)]
      rfl
    | some x =>
      obtain ⟨r, hr, h1, h2⟩ := hL.2 j x hx
      rw [hr]
      simp only [Option.map_some]
      congr 1
      unfold behP
      rw [h1, h2, show (at_ + (spN r.t : Int) - at_).toNat = spN r.t by omega]
      exact sp_drop _
  unfold readV
  rw [hi]
  dsimp only
  unfold readT
  rw [htk, hpc]
  have : wholeT (fp false) (rowsOf (R.map (·.t))) 2 = linS R R.length := by
    rw [← whole_lines]
    exact whole_congr _ (rowsOf_t _) 2
  rw [this]

theorem ex_heads : ∀ m : Fin 9, headP [124, 48 + ((m.val + 1 : Nat) : Int), 43] = some (false, 2, ((m.val + 1 : Nat) : Int)) := by decide +kernel

theorem Try.info44 : (Try.prog.info? 44).map (fun i => (i.zero, i.size, i.bytes)) = some (some (.agg #[.int .i64 0, .slice none 0 0]), 2, 32) := by kernel_rfl
abbrev OwnsL (W : World) (base : Nat) (v : Value) (L : List Ln) : Prop := W.ownsRow base 44 2 v L.length (L.flatMap lnC)
theorem ownsL_cells {w : World} {base : Nat} {v : Value} {L : List Ln} (h : OwnsL w base v L) {g : Nat} (hg : v.ownBlock = some g) : base ≤ g ∧ g < w.heap.size ∧ ∃ cur, w.heap[g]? = some (.cells cur 44 (0, 0)) := by
  rcases h.2 with ⟨rfl, -⟩ | ⟨g', cap, cur, rfl, hb, hh, -⟩
  · cases hg
  · cases hg; exact ⟨hb, (Array.getElem?_eq_some_iff.1 hh).1, cur, hh⟩
theorem pushN_run {w : World} {base : Nat} {v : Value} {L : List Ln} (h : OwnsL w base v L) (hb : base ≤ w.heap.size) (hn : L.length + 1 ≤ 1000000) (x : Ln) :
    ∃ v2 w1, (Builtin.append_ #[34, 34] 34 #[v, .slice (some ⟨w.heap.size, 0, none⟩) 1 1]).run Try.prog (w.alloc (.cells #[.int .i64 x.n, .slice x.q x.t.length x.c] 44)) = .ok v2 w1 ∧
      OwnsL w1 base v2 (L ++ [x]) ∧ (w.alloc (.cells #[.int .i64 x.n, .slice x.q x.t.length x.c] 44)).grownBy w1 v.ownBlock := by
  obtain ⟨i0, hi, hz0, hz1, hz2⟩ := info_parts Try.info44
  obtain ⟨v2, w1, hrun, ho, hg, -⟩ := run_append_own (P := Try.prog) (w.alloc (.cells #[.int .i64 x.n, .slice x.q x.t.length x.c] 44)) base 34 34 44 i0 (.agg #[.int .i64 0, .slice none 0 0]) 2 32 Try.underlying34 hi hz0 hz1 hz2 rfl (by decide)
    v L.length (L.flatMap lnC) (h.alloc _) ⟨w.heap.size, 0, none⟩ 1 1 [.int .i64 x.n, .slice x.q x.t.length x.c] rfl (cells_new w [.int .i64 x.n, .slice x.q x.t.length x.c] 44) (by simp [Value.oneCell']) (by unfold maxLen; omega) (by omega) (by simp; omega)
  refine ⟨v2, w1, hrun, ?_, hg⟩
  unfold OwnsL
  rw [List.flatMap_append, List.length_append]
  exact ho
theorem ls_of_owns {W : World} {base : Nat} {L : List Ln} {a : Option Addr} {k c : Nat} (h : OwnsL W base (.slice a k c) L) (hx : ∀ (j : Nat) (x : Ln), L[j]? = some x → x.t.length ≤ x.c ∧ x.c ≤ maxLen ∧ Is W x.q x.t) : Ls W a L ∧ k = L.length := by
  have h' := h
  obtain ⟨h0, ⟨e, e2⟩ | ⟨g, cap, cur, e, hb, hg, h1, h2, h3, h4⟩⟩ := h'
  · cases e
    have : L = [] := List.eq_nil_of_length_eq_zero (by omega)
    subst this
    exact ⟨⟨hx, .inl rfl⟩, rfl⟩
  · cases e
    refine ⟨⟨hx, .inr ⟨g, 0, rfl, fun j x hj => ?_⟩⟩, rfl⟩
    obtain ⟨a1, a2⟩ := lnC_at L j x hj
    have e1 := h.cells (g := g) rfl _ _ a1
    have e2 := h.cells (g := g) rfl _ _ a2
    rw [add_plain] at e1 e2
    exact ⟨e1, e2⟩
end Go.Proofs.Ytgmcomfeggidnaa
