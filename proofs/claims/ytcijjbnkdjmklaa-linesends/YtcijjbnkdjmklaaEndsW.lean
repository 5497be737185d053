/- A text and a list of lines that grow side by side. -/
import Derived.Test.YtcijjbnkdjmklaaGrow
import Derived.Maps.AppendAt
set_option linter.unusedVariables false
set_option linter.unusedSimpArgs false
namespace Go.Proofs.Ytcijjbnkdjmklaa
open Go.RowKit Go.Shelf

/-- A list of lines whose texts lie in blocks of which ok holds. -/
def RwsK (w : World) (base : Nat) (v : Value) (xs : List (Nat × List Int)) (ok : Nat → Prop) : Prop :=
  ∃ cells, w.ownsRow base 34 2 v xs.length cells ∧ ∀ j x, xs[j]? = some x → cells[2 * j]? = some (.int .i64 x.1) ∧ ∃ t, cells[2 * j + 1]? = some t ∧ w.ownsRow base 3 1 t x.2.length (x.2.map (.int .i64)) ∧ ∀ g, t.ownBlock = some g → ok g

theorem RwsK.rws {w : World} {base : Nat} {v : Value} {xs : List (Nat × List Int)} {ok : Nat → Prop} (h : RwsK w base v xs ok) : Rws w base v xs := by
  obtain ⟨cells, h1, h2⟩ := h
  refine ⟨cells, h1, fun j x hx => ?_⟩
  obtain ⟨a, t, b, c, -⟩ := h2 j x hx
  exact ⟨a, t, b, c⟩
theorem RwsK_nil (w : World) (base : Nat) (ok : Nat → Prop) : RwsK w base (.slice none 0 0) [] ok := ⟨[], World.ownsRow_nil _ _ _ _, fun j x h => by simp at h⟩

theorem rwsK_step {W W1 w1 : World} {base : Nat} {v v' u : Value} {xs : List (Nat × List Int)} {cells : List Value} {x : Nat × List Int} {tmp : Obj} {ok : Nat → Prop}
    (h1 : W.ownsRow base 34 2 v xs.length cells)
    (h2 : ∀ j x, xs[j]? = some x → cells[2 * j]? = some (.int .i64 x.1) ∧ ∃ t, cells[2 * j + 1]? = some t ∧ W.ownsRow base 3 1 t x.2.length (x.2.map (.int .i64)) ∧ ∀ g, t.ownBlock = some g → ok g) (hok : ∀ g, u.ownBlock = some g → ok g)
    (hb : base ≤ W.heap.size) (hc : Copied W x.2 W1 u) (hg : (W1.alloc tmp).grownBy w1 v.ownBlock) (hown : w1.ownsRow base 34 2 v' (xs.length + 1) (cells ++ [.int .i64 x.1, u])) :
    RwsK w1 base v' (xs ++ [x]) ok := by
  have hlen : cells.length = xs.length * 2 := h1.1
  have hvlt : ∀ g, v.ownBlock = some g → g < W.heap.size := fun g e => (h1.lt g e).2
  have hv34 : ∀ g, v.ownBlock = some g → ∃ cur, W.heap[g]? = some (.cells cur 34 (0, 0)) := by
    intro g e
    obtain ⟨-, ⟨rfl, -⟩ | ⟨g', cap, cur, rfl, -, hh, -⟩⟩ := h1
    · cases e
    · cases e; exact ⟨cur, hh⟩
  have hold : ∀ g, g < W.heap.size → some g ≠ v.ownBlock → w1.heap[g]? = W.heap[g]? := by
    intro g hlt hne
    have hs := hc.2.size
    rw [hg.block g (by simp; omega) hne, Below.heap_alloc W1 tmp g (by omega), hc.2.block g hlt]
  refine ⟨cells ++ [.int .i64 x.1, u], by simpa using hown, fun j y hy => ?_⟩
  by_cases hj : j < xs.length
  · rw [List.getElem?_append_left hj] at hy
    obtain ⟨a, t, b, c, hk⟩ := h2 j y hy
    refine ⟨by rw [List.getElem?_append_left (by omega)]; exact a, t, by rw [List.getElem?_append_left (by omega)]; exact b, ownsRow_block c fun g e _ ⟨cur, f, hh⟩ => hold g (Array.getElem?_eq_some_iff.1 hh).1 fun e' => ?_, hk⟩
    obtain ⟨cur', h34⟩ := hv34 g e'.symm
    rw [h34] at hh
    cases hh
  · have hj' : j = xs.length := by
      have := (List.getElem?_eq_some_iff.1 hy).1
      simp at this
      omega
    subst hj'
    simp at hy
    subst hy
    refine ⟨by rw [List.getElem?_append_right (by omega)]; simp [hlen, Nat.mul_comm], u, ?_, ?_, hok⟩
    · rw [List.getElem?_append_right (by omega)]
      have : 2 * xs.length + 1 - cells.length = 1 := by omega
      rw [this]; rfl
    · refine ownsRow_mono (ownsRow_block (w := W1) hc.1 fun g e hbg ⟨cur, f, hh⟩ => ?_) hb
      have hlt1 := (Array.getElem?_eq_some_iff.1 hh).1
      rw [hg.block g (by simp; omega) (fun e' => by have := hvlt g e'.symm; omega), Below.heap_alloc W1 tmp g hlt1]

/-- What lies in memory between two steps: the text's row, the lines' rows, apart. -/
def St (w0 W : World) (lv wv : Value) (t : List Int) (xs : List (Nat × List Int)) : Prop :=
  W.ownsRow w0.heap.size 3 1 lv t.length (t.map (.int .i64)) ∧ RwsK W w0.heap.size wv xs (fun g => some g ≠ lv.ownBlock) ∧ Below w0.heap.size w0 W

theorem St.nil (w : World) : St w w (.slice none 0 0) (.slice none 0 0) [] [] := ⟨World.ownsRow_nil _ _ _ _, RwsK_nil _ _ _, Below.refl _ _⟩

theorem St.alloc {w0 W : World} {lv wv : Value} {t : List Int} {xs : List (Nat × List Int)} (h : St w0 W lv wv t xs) (o : Obj) : St w0 (W.alloc o) lv wv t xs := by
  obtain ⟨h1, ⟨cells, h2, h3⟩, h4⟩ := h
  refine ⟨h1.alloc o, ⟨cells, h2.alloc o, fun j x hx => ?_⟩, h4.alloc h4.size o⟩
  obtain ⟨a, t', b, c, d⟩ := h3 j x hx
  exact ⟨a, t', b, c.alloc o, d⟩

theorem own34 {w : World} {base n : Nat} {v : Value} {xs : List Value} {e : TypeId} {size : Nat} (h : w.ownsRow base e size v n xs) {g : Nat} (hg : v.ownBlock = some g) : ∃ cur, w.heap[g]? = some (.cells cur e (0, 0)) := by
  obtain ⟨-, ⟨rfl, -⟩ | ⟨g', cap, cur, rfl, -, hh, -⟩⟩ := h
  · cases hg
  · cases hg; exact ⟨cur, hh⟩

/-- append(l, ..): the numbers lie in a block of their own. -/
theorem St.text {w0 W : World} {lv wv : Value} {t : List Int} {xs : List (Nat × List Int)} (h : St w0 W lv wv t xs) (ns : List Int) (hl : t.length + ns.length ≤ 1048576) :
    ∃ lv' w1, (Builtin.append_ #[22, 22] 22 #[lv, .slice (some ⟨W.heap.size, 0, none⟩) ns.length ns.length]).run Try.prog (W.alloc (.cells (ns.map (Value.int .i64)).toArray 3)) = .ok lv' w1 ∧ St w0 w1 lv' wv (t ++ ns) xs ∧ ∃ a k c, lv' = .slice a k c := by
  obtain ⟨i0, hi, hz0, hz1, hz2⟩ := info_parts Try.info3
  have hA := h.alloc (.cells (ns.map (Value.int .i64)).toArray 3)
  obtain ⟨h1, ⟨cells, h2, h3⟩, h4⟩ := hA
  have hnews : ∀ j u, (ns.map (Value.int .i64))[j]? = some u → (W.alloc (.cells (ns.map (Value.int .i64)).toArray 3)).cell? ((⟨W.heap.size, 0, none⟩ : Addr).add j) = some u := by
    intro j u hu
    rw [add_plain, Nat.zero_add]
    have : (W.alloc (.cells (ns.map (Value.int .i64)).toArray 3)).heap[W.heap.size]? = some (.cells (ns.map (Value.int .i64)).toArray 3) := World.alloc_heap_new W _
    generalize W.alloc (.cells (ns.map (Value.int .i64)).toArray 3) = Z at this ⊢
    simp only [World.cell?, this]
    rw [List.getElem?_toArray]
    exact hu
  obtain ⟨lv', w1, hrun, ho, hg, -, hat⟩ := run_append_own_at (P := Try.prog) (W.alloc (.cells (ns.map (Value.int .i64)).toArray 3)) w0.heap.size 22 22 3 i0 (.int .i64 0) 1 8 Try.underlying22 hi hz0 hz1 hz2 rfl (by decide) lv t.length (t.map (.int .i64)) h1
      ⟨W.heap.size, 0, none⟩ ns.length ns.length (ns.map (.int .i64)) (by simp) hnews (by simp [Value.oneCell']) (by unfold maxLen; omega) (by omega) h4.size
  have hx : ∀ g, (∃ cur, (W.alloc (.cells (ns.map (Value.int .i64)).toArray 3)).heap[g]? = some (.cells cur 34 (0, 0))) → some g ≠ lv.ownBlock := by
    rintro g ⟨cur, hc⟩ e
    obtain ⟨cur', hc'⟩ := own34 h1 e.symm
    rw [hc] at hc'
    cases hc'
  have hkeep : ∀ g, g < (W.alloc (.cells (ns.map (Value.int .i64)).toArray 3)).heap.size → some g ≠ lv.ownBlock → w1.heap[g]? = (W.alloc (.cells (ns.map (Value.int .i64)).toArray 3)).heap[g]? := fun g h1 h2 => hg.block g h1 h2
  refine ⟨lv', w1, hrun, ⟨by simpa [List.map_append] using ho, ⟨cells, ownsRow_block h2 fun g e _ _ => ?_, fun j x hxj => ?_⟩, ?_⟩, ownsRow_form ho⟩
  · exact hkeep g (h2.lt g e).2 (hx g (own34 h2 e))
  · obtain ⟨a, t', b, c, d⟩ := h3 j x hxj
    refine ⟨a, t', b, ownsRow_block c fun g e _ _ => hkeep g (c.lt g e).2 (d g e), fun g e e' => ?_⟩
    rcases hat with hat | hat
    · rw [hat] at e'
      exact d g e e'
    · rw [hat] at e'
      cases e'
      have := (c.lt _ e).2
      omega
  · exact h4.grown hg h4.size (fun j e => (h1.lt j e).1)

/-- append(want, api.Line{n, text}). -/
theorem St.line {w0 W : World} {lv wv : Value} {t : List Int} {xs : List (Nat × List Int)} (h : St w0 W lv wv t xs) (n : Nat) (d : List Int) (hn : xs.length < 1048576) (hd : d.length ≤ maxLen) :
    ∃ wv' w1, (Builtin.append_ #[24, 24] 24 #[wv, .slice (some ⟨W.heap.size + 1, 0, none⟩) 1 1]).run Try.prog ((W.alloc (.cells (d.map (Value.int .i64)).toArray 3)).alloc (.cells #[.int .i64 n, .slice (some ⟨W.heap.size, 0, none⟩) d.length d.length] 34)) = .ok wv' w1 ∧
      St w0 w1 lv wv' t (xs ++ [(n, d)]) ∧ ∃ a k c, wv' = .slice a k c := by
  have h0 := h
  obtain ⟨h1, ⟨cells, h2, h3⟩, h4⟩ := h
  have hcp : Copied W d (W.alloc (.cells (d.map (Value.int .i64)).toArray 3)) (.slice (some ⟨W.heap.size, 0, none⟩) d.length d.length) := by
    refine ⟨⟨by simp, .inr ⟨W.heap.size, d.length, _, rfl, Nat.le_refl _, World.alloc_heap_new W _, Nat.le_refl _, hd, by simp, by rw [Nat.mul_one]; exact List.take_of_length_le (by simp)⟩⟩, (Below.refl _ W).alloc (Nat.le_refl _) _⟩
  obtain ⟨i0, hi, hz0, hz1, hz2⟩ := info_parts Try.info34
  have h1' := (h1.alloc (.cells (d.map (Value.int .i64)).toArray 3)).alloc (.cells #[.int .i64 n, .slice (some ⟨W.heap.size, 0, none⟩) d.length d.length] 34)
  have h2' := (h2.alloc (.cells (d.map (Value.int .i64)).toArray 3)).alloc (.cells #[.int .i64 n, .slice (some ⟨W.heap.size, 0, none⟩) d.length d.length] 34)
  have hb2 : Below w0.heap.size w0 ((W.alloc (.cells (d.map (Value.int .i64)).toArray 3)).alloc (.cells #[.int .i64 n, .slice (some ⟨W.heap.size, 0, none⟩) d.length d.length] 34)) := (h4.alloc h4.size _).alloc (by have := h4.size; simp; omega) _
  have hblk : ((W.alloc (.cells (d.map (Value.int .i64)).toArray 3)).alloc (.cells #[.int .i64 n, .slice (some ⟨W.heap.size, 0, none⟩) d.length d.length] 34)).heap[W.heap.size + 1]? = some (.cells #[.int .i64 n, .slice (some ⟨W.heap.size, 0, none⟩) d.length d.length] 34) := by
    have := World.alloc_heap_new (W.alloc (.cells (d.map (Value.int .i64)).toArray 3)) (.cells #[.int .i64 n, .slice (some ⟨W.heap.size, 0, none⟩) d.length d.length] 34)
    rwa [World.size_alloc] at this
  obtain ⟨wv', w1, hrun, ho, hg, -⟩ := run_append_own (P := Try.prog) _ w0.heap.size 24 24 34 i0 (.agg #[.int .i64 0, .slice none 0 0]) 2 32 Try.underlying24 hi hz0 hz1 hz2 rfl (by decide)
    wv xs.length cells h2' ⟨W.heap.size + 1, 0, none⟩ 1 1 [.int .i64 n, .slice (some ⟨W.heap.size, 0, none⟩) d.length d.length] rfl (fun j y hy => by
      rw [add_plain, Nat.zero_add]
      generalize ((W.alloc (.cells (d.map (Value.int .i64)).toArray 3)).alloc (.cells #[.int .i64 n, .slice (some ⟨W.heap.size, 0, none⟩) d.length d.length] 34)) = Z at hblk ⊢
      simp [World.cell?, hblk]
      simpa using hy) (by simp [Value.oneCell']) (by unfold maxLen; omega) (by omega) hb2.size
  have hK := rwsK_step (x := (n, d)) (ok := fun g => some g ≠ lv.ownBlock) h2 h3 (fun g e e' => by cases e; exact absurd (h1.lt _ e'.symm).2 (Nat.lt_irrefl _)) h4.size hcp hg ho
  have hl3 : ∀ g, lv.ownBlock = some g → some g ≠ wv.ownBlock := by
    intro g e e'
    obtain ⟨cur, hc⟩ := own34 h1 e
    obtain ⟨cur', hc'⟩ := own34 h2 e'.symm
    rw [hc] at hc'
    cases hc'
  refine ⟨wv', w1, hrun, ⟨ownsRow_block h1' fun g e _ _ => hg.block g (h1'.lt g e).2 (hl3 g e), hK, ?_⟩, ownsRow_form ho⟩
  exact hb2.grown hg hb2.size (fun j e => (h2'.lt j e).1)
end Go.Proofs.Ytcijjbnkdjmklaa
