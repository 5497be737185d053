/- The program's stack of visits in memory, and its methods. -/
import Derived.Test.YtjfeamfchgcblaaDoorYlo
import Derived.Test.YtjfeamfchgcblaaDoorGrr
import Derived.Deep.AppendLies
import Derived.Deep.RegionLaw
import Derived.BigRegion
set_option linter.all false
set_option maxRecDepth 100000
namespace Go.Proofs.YtjfeamfchgcblaaDoor
open Go.RowKit Go.Shelf
attribute [local go_sem] Oper.semAt_some

theorem row_set {w : World} {base e k n g cap : Nat} {xs : List Value} (h : w.ownsRow base e k (.slice (some ⟨g, 0, none⟩) n cap) n xs) (j : Nat) (x : Value) (hj : j < n * k) : (w.setCell ⟨g, j, none⟩ x).ownsRow base e k (.slice (some ⟨g, 0, none⟩) n cap) n (xs.set j x) := by
  obtain ⟨h0, ⟨e1, e2⟩ | ⟨g', cap', cur, e1, hb, hg, h1, h2, h3, h4⟩⟩ := h
  · cases e1
  · cases e1
    refine ⟨by simpa using h0, .inr ⟨g, cap, cur.setIfInBounds j x, rfl, hb, ?_, h1, h2, by simpa using h3, ?_⟩⟩
    · simp only [World.setCell, Array.getElem?_modify, hg, if_true, Option.map_some]
      rfl
    · rw [Array.toList_setIfInBounds, List.take_set, h4]
theorem row_cell {w : World} {base e k n g cap : Nat} {xs : List Value} (h : w.ownsRow base e k (.slice (some ⟨g, 0, none⟩) n cap) n xs) (j : Nat) (v : Value) (hj : xs[j]? = some v) : w.cell? ⟨g, j, none⟩ = some v := by
  have := World.ownsRow.cells h (g := g) rfl j v hj
  rw [add_plain, Nat.zero_add] at this
  exact this
theorem row_frozen {w : World} {base e k n g cap : Nat} {xs : List Value} (h : w.ownsRow base e k (.slice (some ⟨g, 0, none⟩) n cap) n xs) (o : Nat) : w.frozen? ⟨g, o, none⟩ = false := by
  obtain ⟨h0, ⟨e1, e2⟩ | ⟨g', cap', cur, e1, hb, hg, h1⟩⟩ := h
  · cases e1
  · cases e1
    simp [World.frozen?, hg]
theorem row_type {A : World} {base : Nat} {e : TypeId} {k : Nat} {v : Value} {n : Nat} {xs : List Value} (h : A.ownsRow base e k v n xs) {g : Nat} (hg : v.ownBlock = some g) : base ≤ g ∧ ∃ cur, A.heap[g]? = some (.cells cur e (0, 0)) := by
  obtain ⟨-, ⟨e1, -⟩ | ⟨g', cap', cur, e1, hb, hg2, -⟩⟩ := h
  · rw [e1] at hg; cases hg
  · rw [e1] at hg; cases hg; exact ⟨hb, cur, hg2⟩
theorem row_same {A B : World} {base : Nat} {e : TypeId} {k : Nat} {v : Value} {n : Nat} {xs : List Value} (h : A.ownsRow base e k v n xs) (hk : ∀ g, v.ownBlock = some g → B.heap[g]? = A.heap[g]?) : B.ownsRow base e k v n xs := by
  obtain ⟨h0, ⟨e1, e2⟩ | ⟨g, cap, cur, e1, hb, hg, h1⟩⟩ := h
  · exact ⟨h0, .inl ⟨e1, e2⟩⟩
  · exact ⟨h0, .inr ⟨g, cap, cur, e1, hb, (hk g (by rw [e1]; rfl)).trans hg, h1⟩⟩
theorem new_cells (w : World) (c : List Value) (t : TypeId) : ∀ (j : Nat) (u : Value), c[j]? = some u → (w.alloc (.cells c.toArray t)).cell? ((⟨w.heap.size, 0, none⟩ : Addr).add j) = some u := fun j u hj => by
  rw [add_plain, Nat.zero_add]
  have := World.alloc_heap_new w (.cells c.toArray t)
  unfold World.cell?
  rw [this]
  simpa using hj
theorem step_append_run {P : Program} {w w' : World} {ops : Array Oper} {o : Oper} {a : Act} {K : Act → World → Prop} {Q : Exit → Act → World → Prop} {E : Prop} (hgd : o.guard = none) (s x : Operand) (t : TypeId)
    (ho : o.op = .call { callee := .builtin .append, args := #[s, x], argTypes := #[t, t] }) {u y v : Value} (hs : a.eval s = u) (hx : a.eval x = y)
    (hrun : (Builtin.append_ #[t, t] o.type #[u, y]).run P w = .ok v w') (h : K (a.put o.dst v) w') : if Region.wanted o (yielded ops a.tmps) = true then Oper.wp P o a w K Q else E := by
  have hw : Region.wanted o (yielded ops a.tmps) = true := by simp [Region.wanted, hgd]
  rw [if_pos hw]
  unfold Oper.wp execOp
  simp [ho, resolve, invoke, builtin, hs, hx, hrun, Result.andThen]
  exact h

/-- A visit: a node that is open, and those of its Kids that are not yet come to, and where they lie. -/
structure Vs where
  n : Int
  r : List Int
  q : Option Addr
  c : Nat
def Vs.cs (x : Vs) : List Value := [.int .i64 x.n, .slice x.q x.r.length x.c]
def flV (P : List Vs) : List Value := P.reverse.flatMap Vs.cs
theorem flV_cons (x : Vs) (P : List Vs) : flV (x :: P) = flV P ++ x.cs := by unfold flV; simp
theorem flV_len : ∀ P : List Vs, (flV P).length = P.length * 2
  | [] => rfl
  | x :: P => by rw [flV_cons, List.length_append, flV_len P]; simp [Vs.cs]; omega
theorem flV_at (x : Vs) (P : List Vs) (j : Nat) : (flV (x :: P))[P.length * 2 + j]? = x.cs[j]? := by
  rw [flV_cons, List.getElem?_append_right (by rw [flV_len]; omega), flV_len, show P.length * 2 + j - P.length * 2 = j by omega]
theorem flV_set (x : Vs) (P : List Vs) (j : Nat) (v : Value) : (flV (x :: P)).set (P.length * 2 + j) v = flV P ++ x.cs.set j v := by
  rw [flV_cons, List.set_append_right _ _ (by rw [flV_len]; omega), flV_len, show P.length * 2 + j - P.length * 2 = j by omega]
/-- The stack: its box and its list. -/
structure Ps (N B5 : Nat) (P : List Vs) (vp : Value) (w : World) : Prop where
  b : w.heap[B5]? = some (.cells #[vp] 53)
  o : w.ownsRow N 56 2 vp P.length (flV P)
section
variable {N B5 : Nat} {P : List Vs} {vp : Value} {w : World} {x : Vs} {g cap : Nat}
theorem Ps.cell (h : Ps N B5 P vp w) : w.cell? ⟨B5, 0, none⟩ = some vp ∧ w.frozen? ⟨B5, 0, none⟩ = false := by
  constructor
  · simp [World.cell?, h.b]
  · simp [World.frozen?, h.b]
theorem Ps.form (h : Ps N B5 (x :: P) vp w) : ∃ g cap, vp = .slice (some ⟨g, 0, none⟩) (P.length + 1) cap ∧ N ≤ g ∧ g < w.heap.size ∧ P.length + 1 ≤ cap ∧ cap ≤ maxLen ∧ g ≠ B5 := by
  have hb := h.b
  obtain ⟨-, ⟨e1, e2⟩ | ⟨g, cap, cur, e1, hb2, hg, h1, h2, -⟩⟩ := h.o
  · cases e2
  · exact ⟨g, cap, e1, hb2, (Array.getElem?_eq_some_iff.1 hg).1, h1, h2, fun e => by rw [e, hb] at hg; cases hg⟩
theorem Ps.any (h : Ps N B5 P vp w) : ∃ a cap, vp = .slice a P.length cap ∧ P.length ≤ cap ∧ cap ≤ maxLen := by
  obtain ⟨-, ⟨e1, e2⟩ | ⟨g, cap, cur, e1, hb2, hg, h1, h2, -⟩⟩ := h.o
  · exact ⟨none, 0, by rw [e1, e2], by omega, Nat.zero_le _⟩
  · exact ⟨_, cap, e1, h1, h2⟩
theorem Ps.on {w' : World} (h : Ps N B5 P vp w) (hb : Below w.heap.size w w') : Ps N B5 P vp w' :=
  ⟨(hb.block _ (Array.getElem?_eq_some_iff.1 h.b).1).trans h.b, row_same h.o fun g hg => hb.block _ (by obtain ⟨-, cur, h2⟩ := row_type h.o hg; exact (Array.getElem?_eq_some_iff.1 h2).1)⟩
theorem Ps.top (h : Ps N B5 (x :: P) (.slice (some ⟨g, 0, none⟩) (P.length + 1) cap) w) : w.cell? ⟨g, P.length * 2, none⟩ = some (.int .i64 x.n) ∧ w.cell? ⟨g, P.length * 2 + 1, none⟩ = some (.slice x.q x.r.length x.c) ∧ (∀ o, w.frozen? ⟨g, o, none⟩ = false) :=
  ⟨row_cell h.o _ _ (flV_at x P 0), row_cell h.o _ _ (flV_at x P 1), row_frozen h.o⟩
set_option maxHeartbeats 800000 in
theorem Size_any (h : Ps N B5 P vp w) (hl : P.length ≤ 1073741824) :
    Calls Tryd.prog 35 #[.pointer (some ⟨B5, 0, none⟩)] w fun en w' => en = .returned (.int .i64 (P.length : Nat)) ∧ w' = w := by
  obtain ⟨a, c, rfl, h1, h2⟩ := h.any
  obtain ⟨c0, -⟩ := h.cell
  clear h
  go_enter Tryd.func35, Tryd.ntmps35
  go_wp2
  go_ret
  exact ⟨rfl, rfl⟩
set_option maxHeartbeats 1600000 in
theorem Top_any (h : Ps N B5 (x :: P) (.slice (some ⟨g, 0, none⟩) (P.length + 1) cap) w) (hl : P.length ≤ 1073741824) :
    Calls Tryd.prog 36 #[.pointer (some ⟨B5, 0, none⟩)] w fun en w' => en = .returned (.pointer (some ⟨g, P.length * 2, none⟩)) ∧ Below w.heap.size w w' := by
  obtain ⟨c0, -⟩ := h.cell
  have e1 : (P.length : Int) ≤ 1073741824 := by omega
  generalize P.length = n at *
  have e2 : (n : Int) < (n : Int) + 1 := by omega
  clear h
  go_enter Tryd.func36, Tryd.ntmps36
  go_wp2
  go_quiet (fail)
  go_wp2
  go_ret
  exact ⟨rfl, below_drewN (Below.refl _ _) _⟩
end
end Go.Proofs.YtjfeamfchgcblaaDoor
