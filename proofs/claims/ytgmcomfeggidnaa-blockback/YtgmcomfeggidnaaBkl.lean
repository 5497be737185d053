/- BlockBack: its loops. -/
import Derived.Test.YtgmcomfeggidnaaBkp
import Derived.Test.YtgmcomfeggidnaaSml
import Derived.Deep.RegionHeldLaw
set_option linter.unusedVariables false
set_option linter.unusedSimpArgs false
namespace Go.Proofs.Ytgmcomfeggidnaa
open Go.RowKit Go.Shelf

/-- What holds ahead of each line. -/
structure Ibk (w : World) (at_ : Int) (R : List Row) (k : Nat) (vi vw : Value) (W : World) : Prop where
  ls : ∃ L, OwnsL W w.heap.size vi L ∧ SetIn at_ R k L ∧ ∀ (j : Nat) (x : Ln), L[j]? = some x → x.t.length ≤ x.c ∧ x.c ≤ maxLen ∧ Is w x.q x.t ∧ x.t.length ≤ 100 ∧ at_ ≤ x.n ∧ x.n ≤ at_ + 100
  ws : Owns W w.heap.size vw (linS R k)
  wl : (linS R k).length ≤ k * 101
  below : Below w.heap.size w W
  fi : ∃ a m c, vi = .slice a m c
  fw : ∃ a m c, vw = .slice a m c

theorem Ibk.start (w : World) (at_ : Int) (R : List Row) (W : World) (hb : Below w.heap.size w W) : Ibk w at_ R 0 (.slice none 0 0) (.slice none 0 0) W :=
  ⟨⟨[], World.ownsRow_nil _ _ 44 2, ⟨rfl, fun j x h => by simp at h⟩, fun j x h => by simp at h⟩, World.ownsRow_nil _ _ 3 1, Nat.le_refl _, hb, ⟨_, _, _, rfl⟩, ⟨_, _, _, rfl⟩⟩

/-- One line more: both lists grow. -/
theorem Ibk.push {w : World} {at_ : Int} {R : List Row} {k : Nat} {vi vw : Value} {W : World} (h : Ibk w at_ R k vi vw W) {r : Row} (hr : R[k]? = some r) (hk : k ≤ 1000) (ht : r.t.length ≤ 100) (hc : r.t.length ≤ r.c) (hm : r.c ≤ maxLen) (hI : Is w r.q r.t) (q : Option Addr) (hq : Is w q (r.t.drop (spN r.t))) :
    ∃ v1 W1 v2 W2 v3 W3, (Builtin.append_ #[34, 34] 34 #[vi, .slice (some ⟨W.heap.size, 0, none⟩) 1 1]).run Try.prog (W.alloc (.cells #[.int .i64 (at_ + spN r.t), .slice q (r.t.length - spN r.t) (r.c - spN r.t)] 44)) = .ok v1 W1 ∧
      (Builtin.append_ #[22, 22] 22 #[vw, .slice r.q r.t.length r.c]).run Try.prog W1 = .ok v2 W2 ∧ (∃ a m c, v2 = .slice a m c) ∧
      (Builtin.append_ #[22, 22] 22 #[v2, .slice (some ⟨W2.heap.size, 0, none⟩) 1 1]).run Try.prog (W2.alloc (.cells #[.int .i64 10] 3)) = .ok v3 W3 ∧ Ibk w at_ R (k + 1) v1 v3 W3 ∧ Below w.heap.size w W1 ∧ Is W1 r.q r.t := by
  obtain ⟨L, o1, s1, x1⟩ := h.ls
  have hsz := h.below.size
  have hle := sp_le r.t
  have hlin := h.wl
  obtain ⟨v1, W1, R1, O1, G1⟩ := pushN_run o1 hsz (by have := s1.1; omega) ⟨at_ + spN r.t, q, r.t.drop (spN r.t), r.c - spN r.t⟩
  dsimp only at R1 G1
  rw [List.length_drop] at R1 G1
  have B1 : Below w.heap.size W W1 := ((Below.refl _ W).alloc hsz _).grown G1 (by simp; omega) (fun j e => (ownsL_cells o1 e).1)
  have ap1 : vw.ownBlock = none ∨ vw.ownBlock ≠ vi.ownBlock := by
    cases hv : vw.ownBlock with
    | none => exact .inl rfl
    | some g =>
      refine .inr fun e => ?_
      obtain ⟨-, cur, h1⟩ := owns_cells h.ws hv
      obtain ⟨-, -, cur', h2⟩ := ownsL_cells o1 e.symm
      rw [h1] at h2
      cases h2
  have w1 : Owns W1 w.heap.size vw (linS R k) := (h.ws.alloc _).kept G1 ap1
  have bw1 := h.below.trans B1
  have I1 : Is W1 r.q r.t := hI.on bw1
  obtain ⟨v2, W2, R2, O2, G2⟩ := pushL r.c w1 bw1.size (by omega) I1
  have B2 := owns_below w1 G2 (Nat.le_refl _) bw1.size
  have bw2 := bw1.trans B2
  have ap2 : v1.ownBlock = none ∨ v1.ownBlock ≠ vw.ownBlock := by
    cases hv : v1.ownBlock with
    | none => exact .inl rfl
    | some g =>
      refine .inr fun e => ?_
      obtain ⟨-, cur, h1⟩ := owns_cells w1 e.symm
      obtain ⟨-, -, cur', h2⟩ := ownsL_cells O1 hv
      rw [h1] at h2
      cases h2
  have l2 : OwnsL W2 w.heap.size v1 (L ++ [⟨at_ + spN r.t, q, r.t.drop (spN r.t), r.c - spN r.t⟩]) := O1.kept G2 ap2
  obtain ⟨g3, c3, W3, R3, O3, G3, -⟩ := push1 O2 bw2.size (by rw [List.length_append]; omega) 10
  have B3 : Below w.heap.size W2 W3 := ((Below.refl _ W2).alloc bw2.size _).grown G3 (by have := bw2.size; simp; omega) (fun j e => (owns_cells O2 e).1)
  have ap3 : v1.ownBlock = none ∨ v1.ownBlock ≠ v2.ownBlock := by
    cases hv : v1.ownBlock with
    | none => exact .inl rfl
    | some g =>
      refine .inr fun e => ?_
      obtain ⟨-, cur, h1⟩ := owns_cells O2 e.symm
      obtain ⟨-, -, cur', h2⟩ := ownsL_cells l2 hv
      rw [h1] at h2
      cases h2
  have l3 := (l2.alloc (.cells #[.int .i64 10] 3)).kept G3 ap3
  refine ⟨v1, W1, v2, W2, _, W3, R1, R2, ownsRow_form O2, R3, ⟨⟨_, l3, ⟨by rw [List.length_append, s1.1]; rfl, fun j x hx => ?_⟩, fun j x hx => ?_⟩, ?_, by rw [linS, tAt_at hr]; simp; omega, bw2.trans B3, ownsRow_form O1, ⟨_, _, _, rfl⟩⟩, bw1, I1⟩
  · by_cases hj : j < L.length
    · rw [List.getElem?_append_left hj] at hx
      exact s1.2 j x hx
    · have : j = L.length := by
        have := (List.getElem?_eq_some_iff.1 hx).1
        simp at this
        omega
      subst this
      simp at hx
      subst hx
      rw [s1.1]
      exact ⟨r, hr, rfl, rfl⟩
  · by_cases hj : j < L.length
    · rw [List.getElem?_append_left hj] at hx
      exact x1 j x hx
    · have : j = L.length := by
        have := (List.getElem?_eq_some_iff.1 hx).1
        simp at this
        omega
      subst this
      simp at hx
      subst hx
      exact ⟨by simp; omega, by show r.c - spN r.t ≤ maxLen; omega, hq, by simp; omega, by show at_ ≤ at_ + (spN r.t : Int); omega, by show at_ + (spN r.t : Int) ≤ at_ + 100; omega⟩
  · have e : linS R (k + 1) = linS R k ++ r.t ++ [10] := by rw [linS, tAt_at hr]
    rw [e]
    have := O3
    simpa [Owns] using this
end Go.Proofs.Ytgmcomfeggidnaa
