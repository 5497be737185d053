/- EventsWrap: the rows that it builds. -/
import Derived.Test.YtgmenlcngdphhaaPar
set_option linter.unusedVariables false
set_option linter.unusedSimpArgs false
namespace Go.Proofs.Ytgmenlcngdphhaa
open Go.RowKit Go.Shelf

/-- A row of one document, cut. -/
theorem wrap_cut {L : List Ev} (h3 : 3 ≤ L.length) (he : endP L 1 = L.length - 1) : ∃ d e nd, L = d :: (nd ++ [e]) ∧ node (nd ++ [e]) = some nd.length := by
  rw [endP_eq] at he
  cases L with
  | nil => simp at h3
  | cons d t =>
    rw [List.drop_one, List.tail_cons] at he
    simp at h3 he
    cases hn : node t with
    | none => rw [hn] at he; simp [upto] at he; omega
    | some m =>
      rw [hn] at he
      simp [upto] at he
      have hm : m + 1 = t.length := by omega
      rcases List.eq_nil_or_concat t with rfl | ⟨nd, e, rfl⟩
      · simp at h3
      · rw [List.concat_eq_append] at hn hm ⊢
        simp at hm
        subst hm
        exact ⟨d, e, nd, rfl, hn⟩
/-- Two events laid anew. -/
theorem two_new (W : World) (x y : Ev) : OwnE (W.alloc (.cells #[.int .i64 x.k, .string x.tx, .string x.tg, .string x.an, .int .i64 x.st, .bool x.fl, .int .i64 y.k, .string y.tx, .string y.tg, .string y.an, .int .i64 y.st, .bool y.fl] 30)) W.heap.size (.slice (some ⟨W.heap.size, 0, none⟩) 2 2) [x, y] :=
  ⟨rfl, .inr ⟨W.heap.size, 2, _, rfl, Nat.le_refl _, World.alloc_heap_new _ _, Nat.le_refl _, by unfold maxLen; omega, rfl, rfl⟩⟩
theorem OwnE.on {w w' : World} {base : Nat} {v : Value} {L : List Ev} (h : OwnE w base v L) (hb : Below w.heap.size w w') : OwnE w' base v L := by
  obtain ⟨h0, h1 | ⟨g, cap, cur, e1, hb', hh, h1⟩⟩ := h
  · exact ⟨h0, .inl h1⟩
  · exact ⟨h0, .inr ⟨g, cap, cur, e1, hb', (hb.block g (Array.getElem?_eq_some_iff.1 hh).1).trans hh, h1⟩⟩
theorem OwnE.low {w : World} {base base' : Nat} {v : Value} {L : List Ev} (h : OwnE w base v L) (hb : base' ≤ base) : OwnE w base' v L := by
  obtain ⟨h0, h1 | ⟨g, cap, cur, e1, hb', h1⟩⟩ := h
  · exact ⟨h0, .inl h1⟩
  · exact ⟨h0, .inr ⟨g, cap, cur, e1, Nat.le_trans hb hb', h1⟩⟩
abbrev two (x y : Ev) : Obj := .cells #[.int .i64 x.k, .string x.tx, .string x.tg, .string x.an, .int .i64 x.st, .bool x.fl, .int .i64 y.k, .string y.tx, .string y.tg, .string y.an, .int .i64 y.st, .bool y.fl] 30
theorem alloc_below (W : World) (o : Obj) : Below W.heap.size W (W.alloc o) := (Below.refl _ W).alloc (Nat.le_refl _) o
theorem drew_below (W : World) : Below W.heap.size W W.drew := (Below.refl _ W).drew

/-- Two more events, laid anew and appended. -/
theorem push_two {W : World} {base : Nat} {v : Value} {A : List Ev} (h : OwnE W base v A) (hb : base ≤ W.heap.size) (hn : A.length + 2 ≤ 1048576) (x y : Ev) :
    ∃ v' w1, (Builtin.append_ #[22, 22] 22 #[v, .slice (some ⟨W.heap.size, 0, none⟩) 2 2]).run Try.prog (W.alloc (two x y)) = .ok v' w1 ∧ OwnE w1 base v' (A ++ [x, y]) ∧ (∀ n₀ u, n₀ ≤ base → Below n₀ u W → Below n₀ u w1) := by
  have h1 := h.on (alloc_below W (two x y))
  obtain ⟨q, c, e, -, -, hE⟩ := (two_new W x y).read
  cases e
  obtain ⟨v', w1, hr, ho, hg⟩ := pushE 2 h1 (by simp; omega) (B := [x, y]) hn hE
  exact ⟨v', w1, hr, ho, fun n₀ u hn₀ hu => h1.below hn₀ (by simp; omega) hg (hu.alloc (Nat.le_trans hn₀ hb) _)⟩
/-- All that the law builds. -/
theorem wrap_rows {W : World} {d e : Ev} {nd : List Ev} {q : Option Addr} (c : Nat) (x y : Ev) (hE : Es W q nd) (hn : nd.length ≤ 300) :
    ∃ v1 w1 v2 w2 q3 c3 w3 v5 w5 q6 c6 w6,
      (Builtin.append_ #[22, 22] 22 #[.slice (some ⟨W.heap.size, 0, none⟩) 2 2, .slice q nd.length c]).run Try.prog ((W.alloc (two d x)).drew) = .ok v1 w1 ∧
      (Builtin.append_ #[22, 22] 22 #[v1, .slice q nd.length c]).run Try.prog w1 = .ok v2 w2 ∧
      (Builtin.append_ #[22, 22] 22 #[v2, .slice (some ⟨w2.heap.size, 0, none⟩) 2 2]).run Try.prog (w2.alloc (two y e)) = .ok (.slice q3 (d :: x :: (nd ++ (nd ++ [y, e]))).length c3) w3 ∧
      (Builtin.append_ #[22, 22] 22 #[.slice (some ⟨w3.heap.size, 0, none⟩) 2 2, .slice q nd.length c]).run Try.prog (w3.drew.alloc (two d (ev0 5))) = .ok v5 w5 ∧
      (Builtin.append_ #[22, 22] 22 #[v5, .slice (some ⟨w5.heap.size, 0, none⟩) 2 2]).run Try.prog (w5.alloc (two (ev0 6) e)) = .ok (.slice q6 (d :: ev0 5 :: (nd ++ [ev0 6, e])).length c6) w6 ∧
      Below W.heap.size W w2 ∧ Below W.heap.size W w3 ∧ Below W.heap.size W w5 ∧ Below W.heap.size W w6 ∧ (d :: x :: (nd ++ (nd ++ [y, e]))).length ≤ c3 ∧
      Es w6 q3 (d :: x :: (nd ++ (nd ++ [y, e]))) ∧ Es w6 q6 (d :: ev0 5 :: (nd ++ [ev0 6, e])) := by
  have kA := alloc_below W (two d x)
  have kB : Below W.heap.size W (W.alloc (two d x)).drew := chain kA (drew_below _)
  have o0 : OwnE (W.alloc (two d x)).drew W.heap.size (.slice (some ⟨W.heap.size, 0, none⟩) 2 2) [d, x] := (two_new W d x).on (drew_below _)
  obtain ⟨v1, w1, r1, o1, g1⟩ := pushE c o0 kB.size (by simp; omega) (hE.on kB)
  have k1 : Below W.heap.size W w1 := o0.below (Nat.le_refl _) kB.size g1 kB
  obtain ⟨v2, w2, r2, o2, g2⟩ := pushE c o1 k1.size (by simp; omega) (hE.on k1)
  have k2 : Below W.heap.size W w2 := o1.below (Nat.le_refl _) k1.size g2 k1
  obtain ⟨v3, w3, r3, o3, g3⟩ := push_two o2 k2.size (by simp; omega) y e
  have k3 : Below W.heap.size W w3 := g3 _ _ (Nat.le_refl _) k2
  have e3 : ([d, x] ++ nd) ++ nd ++ [y, e] = d :: x :: (nd ++ (nd ++ [y, e])) := by simp
  rw [e3] at o3
  obtain ⟨q3, c3, rfl, hc3, -, hE3⟩ := o3.read
  have kC := drew_below w3
  have kD : Below w3.heap.size w3 (w3.drew.alloc (two d (ev0 5))) := chain kC (alloc_below _ _)
  have o4 : OwnE (w3.drew.alloc (two d (ev0 5))) w3.heap.size (.slice (some ⟨w3.heap.size, 0, none⟩) 2 2) [d, ev0 5] := two_new w3.drew d (ev0 5)
  obtain ⟨v5, w5, r5, o5, g5⟩ := pushE c o4 kD.size (by simp; omega) (hE.on (chain k3 kD))
  have k5 : Below w3.heap.size w3 w5 := o4.below (Nat.le_refl _) kD.size g5 kD
  obtain ⟨v6, w6, r6, o6, g6⟩ := push_two o5 k5.size (by simp; omega) (ev0 6) e
  have k6 : Below w3.heap.size w3 w6 := g6 _ _ (Nat.le_refl _) k5
  have e6 : ([d, ev0 5] ++ nd) ++ [ev0 6, e] = d :: ev0 5 :: (nd ++ [ev0 6, e]) := by simp
  rw [e6] at o6
  obtain ⟨q6, c6, rfl, hc6, -, hE6⟩ := o6.read
  exact ⟨v1, w1, v2, w2, q3, c3, w3, v5, w5, q6, c6, w6, r1, r2, r3, r5, r6, k2, k3, chain k3 k5, chain k3 k6, hc3, hE3.on k6, hE6⟩

theorem maxD_le : ∀ (t : List Ev) (s : List Nat) (m : Nat), maxD (told s t) m ≤ max m (s.length + t.length) := by
  intro t
  induction t with
  | nil => intro s m; show m ≤ _; omega
  | cons x t ih =>
    intro s m
    cases hst : stp s x.k with
    | none => rw [told_none _ hst]; show m ≤ _; omega
    | some s' =>
      rw [told_some _ hst, maxD]
      have h1 := ih s' (max m (s'.length - 1))
      have h2 := stp_len hst
      have h3 : s'.length ≤ s.length + 1 := by
        rw [h2]
        split
        · omega
        · split <;> omega
      rw [List.length_cons]
      dsimp only
      omega
theorem depth_le (L : List Ev) : depthP L ≤ L.length + 1 := by
  unfold depthP
  split
  · have := maxD_le L [0] 0
    simp at this
    omega
  · omega

theorem opIn_append_run {F : Fence} {n : Nat} {P : Program} {w w' : World} {o : Oper} {a : Act} {Q : Exit → Act → World → Prop} {K : Act → World → Prop} (s x : Operand) (t : TypeId)
    (ho : o.op = .call { callee := .builtin .append, args := #[s, x], argTypes := #[t, t] }) {u y v : Value} (hs : a.eval s = u) (hx : a.eval x = y)
    (hrun : (Builtin.append_ #[t, t] o.type #[u, y]).run P w = .ok v w') (h : K (a.put o.dst v) w') : Oper.wpIn F n P o a w K Q := by
  unfold Oper.wpIn
  refine ⟨?_, ?_⟩
  · simp [Oper.about, ho, resolve, Target.leads, Sem.run_pure]
  · rw [Oper.semAt_plain F _ _ (by rw [ho]; intro c hc'; cases hc')]
    simp [execOp, ho, resolve, invoke, builtin, hs, hx, hrun, Result.andThen]
    exact h
end Go.Proofs.Ytgmenlcngdphhaa
