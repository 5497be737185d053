/- Appends of a row to a row: ints behind ints, lines behind lines. -/
import Derived.Test.YtcijjbnkdjmklaaReadLaw
import Derived.Test.YtcijjbnkdjmklaaSegs
set_option linter.unusedVariables false
set_option linter.unusedSimpArgs false
namespace Go.Proofs.Ytcijjbnkdjmklaa
open Go.RowKit Go.Shelf

/-- An append whose run is known, behind a guard that is met. -/
theorem wpList_append_runW {P : Program} {w w' : World} {ops : Array Oper} {rest : List Oper} {o : Oper} {a : Act} {Q : Exit → Act → World → Prop} (hw : Region.wanted o (yielded ops a.tmps) = true) (s x : Operand) (t : TypeId)
    (ho : o.op = .call { callee := .builtin .append, args := #[s, x], argTypes := #[t, t] }) {u y v : Value} (hs : a.eval s = u) (hx : a.eval x = y)
    (hrun : (Builtin.append_ #[t, t] o.type #[u, y]).run P w = .ok v w') (h : wpList P ops Q rest (a.put o.dst v) w') : wpList P ops Q (o :: rest) a w :=
  wpList_step fun K hK => by
    rw [if_pos hw]
    unfold Oper.wp execOp
    simp [ho, resolve, invoke, builtin, hs, hx, hrun, Result.andThen]
    exact hK _ _ h

/-- append(v, nil...) of a slice that was made. -/
theorem append_none {w : World} {base : Nat} {e t : TypeId} {z : Value} {size bytes : Nat} (ht : Try.prog.underlying t = some (.slice e)) (hinfo : (Try.prog.info? e).map (fun i => (i.zero, i.size, i.bytes)) = some (some z, size, bytes)) {v : Value} {n : Nat} {xs : List Value} (h : w.ownsRow base e size v n xs) (c : Nat) :
    (Builtin.append_ #[t, t] t #[v, .slice none 0 c]).run Try.prog w = .ok v w := by
  obtain ⟨i0, hi, hz0, hz1, hz2⟩ := info_parts hinfo
  obtain ⟨-, ⟨rfl, -⟩ | ⟨g, cap, cur, rfl, -, hg, hn, -⟩⟩ := h
  · simp [Builtin.append_, run_underlying ht, sizeOf, typeInfo, hi, Builtin.lenOf, Builtin.firstCells, loadCells, loadCellsFrom]
  · have := run_append_room_src (P := Try.prog) w t t t e i0 ht hi g 0 n cap (.slice none 0 c) 0 [] (Src.ofNil w ht c) (by omega) (fun j hj => by simp at hj) (fun j hj => by simp at hj)
    simpa [World.setCells] using this

/-- A slice of ints of the call's own. -/
def OwnI (W2 W : World) (v : Value) (t : List Int) : Prop := W.ownsRow W2.heap.size 3 1 v t.length (t.map (.int .i64)) ∧ Below W2.heap.size W2 W

theorem OwnI.more {W2 W : World} {v : Value} {t : List Int} (h : OwnI W2 W v t) (q : Option Addr) (l : List Int) (c : Nat) (hI : Is W q l) (hl : t.length + l.length ≤ 1048576) :
    ∃ v' w', (Builtin.append_ #[22, 22] 22 #[v, .slice q l.length c]).run Try.prog W = .ok v' w' ∧ OwnI W2 w' v' (t ++ l) ∧ ∃ a k cc, v' = .slice a k cc := by
  obtain ⟨i0, hi, hz0, hz1, hz2⟩ := info_parts Try.info3
  cases q with
  | none =>
    have e : l = [] := by
      rcases hI with e | ⟨b, o, e, -⟩
      · exact e
      · cases e
    subst e
    exact ⟨v, W, append_none Try.underlying22 Try.info3 h.1 c, by rw [List.append_nil]; exact h, ownsRow_form h.1⟩
  | some a =>
    have hnews : ∀ j u, (l.map (Value.int .i64))[j]? = some u → W.cell? (a.add j) = some u := by
      intro j u hu
      rw [List.getElem?_map] at hu
      cases hj : l[j]? with
      | none => rw [hj] at hu; cases hu
      | some z =>
        rw [hj] at hu
        have hjl : j < l.length := (List.getElem?_eq_some_iff.1 hj).1
        obtain ⟨b, o, e, hc⟩ := hI.at (by omega)
        cases e
        rw [add_plain, hc j hjl]
        simp [iAt, hj] at hu ⊢
        exact hu
    obtain ⟨v', w', hr, ho, hg, -⟩ := run_append_own (P := Try.prog) W W2.heap.size 22 22 3 i0 (.int .i64 0) 1 8 Try.underlying22 hi hz0 hz1 hz2 rfl (by decide) v t.length (t.map (.int .i64)) h.1
      a l.length c (l.map (.int .i64)) (by simp) hnews (by simp [Value.oneCell']) (by unfold maxLen; omega) (by omega) h.2.size
    refine ⟨v', w', hr, ⟨by simpa [List.map_append] using ho, h.2.grown hg h.2.size (fun j e => (h.1.lt j e).1)⟩, ownsRow_form ho⟩

theorem OwnI.start (W : World) (q : Option Addr) (l : List Int) (c : Nat) (hI : Is W q l) (hl : l.length ≤ 1048576) :
    ∃ v' w', (Builtin.append_ #[22, 22] 22 #[.slice none 0 0, .slice q l.length c]).run Try.prog W = .ok v' w' ∧ OwnI W w' v' l ∧ ∃ a k cc, v' = .slice a k cc := by
  obtain ⟨v, w', h1, h2, h3⟩ := append_copy W q l c hI (by omega)
  exact ⟨v, w', h1, ⟨h2, h3⟩, ownsRow_form h2⟩

/-- Lines behind lines. -/
theorem append_lines {W : World} {base base' : Nat} {v u : Value} {xs ys : List (Nat × List Int)} (hx : Rws W base v xs) (hy : Rws W base' u ys) (hb : base ≤ W.heap.size) (hb' : base ≤ base') (hn : xs.length + ys.length ≤ 1048576) :
    ∃ v' w', (Builtin.append_ #[24, 24] 24 #[v, u]).run Try.prog W = .ok v' w' ∧ Rws w' base v' (xs ++ ys) ∧ Below base W w' ∧ (∀ g, g < W.heap.size → some g ≠ v.ownBlock → w'.heap[g]? = W.heap[g]?) := by
  obtain ⟨i0, hi, hz0, hz1, hz2⟩ := info_parts Try.info34
  obtain ⟨cx, x1, x2⟩ := hx
  obtain ⟨cy, y1, y2⟩ := hy
  have lx : cx.length = xs.length * 2 := x1.1
  have ly : cy.length = ys.length * 2 := y1.1
  have hy1 := y1
  obtain ⟨-, ⟨rfl, ey⟩ | ⟨g, cap, cur, rfl, -, hg, -⟩⟩ := hy1
  · have : ys = [] := List.eq_nil_of_length_eq_zero ey
    subst this
    exact ⟨v, W, append_none Try.underlying24 Try.info34 x1 0, by rw [List.append_nil]; exact ⟨cx, x1, x2⟩, Below.refl _ _, fun _ _ _ => rfl⟩
  · have hone : ∀ c, c ∈ cy → c.oneCell' = true := by
      intro c hc
      obtain ⟨j, hj, rfl⟩ := List.mem_iff_getElem.1 hc
      have hj2 : j / 2 < ys.length := by omega
      obtain ⟨a, t, b, d⟩ := y2 (j / 2) ys[j / 2] (List.getElem?_eq_getElem hj2)
      rcases Nat.mod_two_eq_zero_or_one j with h | h
      · have e : 2 * (j / 2) = j := by omega
        rw [e, List.getElem?_eq_getElem hj] at a
        rw [Option.some.inj a]
        rfl
      · have e : 2 * (j / 2) + 1 = j := by omega
        rw [e, List.getElem?_eq_getElem hj] at b
        obtain ⟨ta, tk, tc, e3⟩ := ownsRow_form d
        rw [Option.some.inj b, e3]
        rfl
    obtain ⟨v', w', hr, ho, hgr, -⟩ := run_append_own (P := Try.prog) W base 24 24 34 i0 (.agg #[.int .i64 0, .slice none 0 0]) 2 32 Try.underlying24 hi hz0 hz1 hz2 rfl (by decide) v xs.length cx x1
      ⟨g, 0, none⟩ ys.length cap cy ly (y1.cells (g := g) rfl) hone (by unfold maxLen; omega) (by omega) hb
    have hold : ∀ g, g < W.heap.size → some g ≠ v.ownBlock → w'.heap[g]? = W.heap[g]? := fun g h1 h2 => hgr.block g h1 h2
    have hv34 : ∀ g, (∃ cur f, W.heap[g]? = some (.cells cur 3 f)) → some g ≠ v.ownBlock := by
      rintro g ⟨cur, f, hc⟩ e
      obtain ⟨-, ⟨rfl, -⟩ | ⟨g', cap', cur', rfl, -, hh, -⟩⟩ := x1
      · cases e
      · cases e; rw [hh] at hc; cases hc
    refine ⟨v', w', hr, ⟨cx ++ cy, by simpa using ho, fun j x hj => ?_⟩, (Below.refl _ W).grown hgr hb (fun j e => (x1.lt j e).1), hold⟩
    by_cases hlt : j < xs.length
    · rw [List.getElem?_append_left hlt] at hj
      obtain ⟨a, t, b, c⟩ := x2 j x hj
      refine ⟨by rw [List.getElem?_append_left (by omega)]; exact a, t, by rw [List.getElem?_append_left (by omega)]; exact b, ownsRow_block c fun g e _ h => hold g (c.lt g e).2 (hv34 g h)⟩
    · rw [List.getElem?_append_right (by omega)] at hj
      obtain ⟨a, t, b, c⟩ := y2 (j - xs.length) x hj
      refine ⟨?_, t, ?_, ownsRow_mono (ownsRow_block c fun g e _ h => hold g (c.lt g e).2 (hv34 g h)) hb'⟩
      · rw [List.getElem?_append_right (by omega), ← a]
        congr 1
        omega
      · rw [List.getElem?_append_right (by omega), ← b]
        congr 1
        omega

theorem lines_parts {a e b : List Int} (ha : a ≠ []) (hl : endP (iAt a (a.length - 1)) = false) (he : IsEnd e b) : linesP (a ++ e ++ b) = linesP a ++ linesP b := by
  rw [lines_segs, lines_segs, lines_segs, segs_parts a.length a e b (Nat.le_refl _) ha hl he, List.map_append]
theorem good_parts {a e b : List Int} (h1 : a.any badP = false) (h2 : b.any badP = false) (he : IsEnd e b) : (a ++ e ++ b).any badP = false := by
  rw [List.any_append, List.any_append, h1, h2, end_good he]; rfl
end Go.Proofs.Ytcijjbnkdjmklaa
