/- The stack's Pop and Push. -/
import Derived.Test.YtjfeamfchgcblaaDoorSmp
set_option linter.all false
set_option maxRecDepth 100000
namespace Go.Proofs.YtjfeamfchgcblaaDoor
open Go.RowKit Go.Shelf
attribute [local go_sem] Oper.semAt_some

theorem box_new (w : World) (c : Array Value) (t : TypeId) (j : Nat) : (w.alloc (.cells c t)).cell? ⟨w.heap.size, j, none⟩ = c[j]? := by
  have := World.alloc_heap_new w (.cells c t)
  unfold World.cell?
  rw [this]
  rfl
theorem box_open (w : World) (c : Array Value) (t : TypeId) (j : Nat) : (w.alloc (.cells c t)).frozen? ⟨w.heap.size, j, none⟩ = false := by
  have := World.alloc_heap_new w (.cells c t)
  unfold World.frozen?
  rw [this]
  simp
section
variable {N B5 : Nat} {P : List Vs} {vp : Value} {w : World} {x : Vs} {g cap : Nat}
theorem cut51 (p : Option Addr) (len cap s : Nat) (hs : s ≤ cap) (w2 : World) :
    (Instr.slice 51 (.slice p len cap) none (some (.int .i64 s)) none).run Tryd.prog w2 = .ok (.slice p s cap) w2 := by
  have h0 : (s : Int) ≤ cap := by omega
  have hu := Tryd.underlying51
  have hz := Tryd.sizeOf56
  cases p with
  | none => simp [go_sem, h0, hu, hz]
  | some a =>
    obtain ⟨b, o, sp⟩ := a
    by_cases hc : cap = 0
    · subst hc; obtain rfl : s = 0 := by omega
      simp [go_sem, hu, hz]
    · cases sp <;> simp [go_sem, h0, hc, Addr.add, hu, hz]
theorem Ps.pop (h : Ps N B5 (x :: P) (.slice (some ⟨g, 0, none⟩) (P.length + 1) cap) w) {w' : World} (hb : w'.heap[B5]? = some (.cells #[.slice (some ⟨g, 0, none⟩) P.length cap] 53)) (hg : w'.heap[g]? = w.heap[g]?) : Ps N B5 P (.slice (some ⟨g, 0, none⟩) P.length cap) w' := by
  refine ⟨hb, ?_⟩
  obtain ⟨-, ⟨e1, e2⟩ | ⟨g', cap', cur, e1, hb2, hg2, h1, h2, h3, h4⟩⟩ := h.o
  · cases e1
  · simp only [List.length_cons, Value.slice.injEq, Option.some.injEq, Addr.mk.injEq, true_and, and_true] at e1
    obtain ⟨rfl, rfl⟩ := e1
    refine ⟨by rw [flV_len], .inr ⟨g, cap, cur, rfl, hb2, hg.trans hg2, by simp at h1; omega, h2, h3, ?_⟩⟩
    have := congrArg (List.take (P.length * 2)) h4
    rw [flV_cons, List.take_take, Nat.min_eq_left (by simp; omega), List.take_append_of_le_length (by rw [flV_len]; omega), List.take_of_length_le (l := flV P) (by rw [flV_len]; omega)] at this
    exact this
set_option maxHeartbeats 3200000 in
theorem Pop_any (h : Ps N B5 (x :: P) (.slice (some ⟨g, 0, none⟩) (P.length + 1) cap) w) (hl : P.length ≤ 1073741824) :
    Calls Tryd.prog 37 #[.pointer (some ⟨B5, 0, none⟩)] w fun en w' => (∃ v, en = .returned v) ∧ w.grownBy w' (some B5) ∧ Ps N B5 P (.slice (some ⟨g, 0, none⟩) P.length cap) w' := by
  obtain ⟨w1, hw1⟩ : ∃ w1, w.alloc (.cells #[.int .i64 0, .slice none 0 0] 56) = w1 := ⟨_, rfl⟩
  have hB1 : Below w.heap.size w w1 := hw1 ▸ (Below.refl _ w).alloc (Nat.le_refl _) _
  have h1 := h.on hB1
  have TP := Top_any h1 hl
  have e1 : (P.length : Int) ≤ 1073741824 := by omega
  have hlt := (Array.getElem?_eq_some_iff.1 h.b).1
  obtain ⟨-, cur, hgc⟩ := row_type h.o (g := g) rfl
  have hglt := (Array.getElem?_eq_some_iff.1 hgc).1
  have hgB : g ≠ B5 := fun e => by have := h.b; rw [e] at hgc; rw [hgc] at this; cases this
  obtain ⟨g', c', e, -, -, hcap, hcm, -⟩ := h.form
  cases e
  have hcap' : (P.length : Int) + 1 ≤ cap := by omega
  have hcm' : (cap : Int) ≤ 9223372036854775807 := by unfold maxLen at hcm; omega
  have H : Hid (∀ w', w'.heap[B5]? = some (.cells #[.slice (some ⟨g, 0, none⟩) P.length cap] 53) → w'.heap[g]? = w.heap[g]? → Ps N B5 P (.slice (some ⟨g, 0, none⟩) P.length cap) w') := fun w' => h.pop
  have hs1 : w1.heap.size = w.heap.size + 1 := by rw [← hw1]; simp
  have T1 : Hid (∀ w2, Below w1.heap.size w1 w2 → _) := fun w2 hb => (h1.on hb).top
  have C1 : Hid (∀ w2, Below w1.heap.size w1 w2 → _) := fun w2 hb => (h1.on hb).cell
  have BX : Hid (∀ w2, Below w1.heap.size w1 w2 → _) := fun w2 hb => (h1.on hb).b
  clear h h1 hgc
  go_enter Tryd.func37, Tryd.ntmps37
  go_wp2_with (first | (go_at_call 36; (try rw [hw1]); refine TP.mono ?_; rintro e w2 ⟨rfl, hb2⟩; obtain ⟨t0, t1, -⟩ := T1.out w2 hb2; have hb2s := hb2.size))
  obtain ⟨w3, hw3⟩ : ∃ w3, w2.alloc (.cells #[.int .i64 x.n, .slice x.q x.r.length x.c] 56) = w3 := ⟨_, rfl⟩
  have hB3 : Below w1.heap.size w1 w3 := hw3 ▸ hb2.alloc hb2.size _
  have a0 : w3.cell? ⟨w2.heap.size, 0, none⟩ = some (.int .i64 x.n) := by rw [← hw3, box_new]; rfl
  have a1 : w3.cell? ⟨w2.heap.size, 1, none⟩ = some (.slice x.q x.r.length x.c) := by rw [← hw3, box_new]; rfl
  obtain ⟨c0, c1⟩ := C1.out w3 hB3
  have hs3 : w2.heap.size < w3.heap.size := by rw [← hw3]; simp
  rw [hw3]
  clear TP t0 t1
  have e2 : (P.length : Int) ≤ cap := by omega
  go_region
  have hs4 : (w3.setCell ⟨B5, 0, none⟩ (.slice (some ⟨g, 0, none⟩) P.length cap)).drew.heap.size = w3.heap.size := by simp [World.setCell, World.drew]
  have hoth : ∀ k, k ≠ B5 → (w3.setCell ⟨B5, 0, none⟩ (.slice (some ⟨g, 0, none⟩) P.length cap)).drew.heap[k]? = w3.heap[k]? := fun k hk => Deep.blk_setCell_other _ _ _ _ hk
  have hB5 : (w3.setCell ⟨B5, 0, none⟩ (.slice (some ⟨g, 0, none⟩) P.length cap)).drew.heap[B5]? = some (.cells #[.slice (some ⟨g, 0, none⟩) P.length cap] 53) := by
    have := BX.out w3 hB3
    show (w3.setCell _ _).heap[B5]? = _
    simp only [World.setCell, Array.getElem?_modify, this, if_true, Option.map_some]
    rfl
  have hg4 : w3.grownBy (w3.setCell ⟨B5, 0, none⟩ (.slice (some ⟨g, 0, none⟩) P.length cap)).drew (some B5) := ⟨rfl, rfl, rfl, by rw [hs4]; exact Nat.le_refl _, fun k _ hne => hoth k (fun e => hne (by rw [e]))⟩
  obtain ⟨w4, hw4⟩ : ∃ w4, (w3.setCell ⟨B5, 0, none⟩ (.slice (some ⟨g, 0, none⟩) P.length cap)).drew = w4 := ⟨_, rfl⟩
  rw [hw4] at hs4 hoth hB5 hg4 ⊢
  have hn0 : w4.heap[w.heap.size]? = some (.cells #[.int .i64 0, .slice none 0 0] 56) := by
    rw [hoth _ (by omega), hB3.block _ (by omega), ← hw1]
    exact World.alloc_heap_new w _
  have b0 : w4.cell? ⟨w2.heap.size, 0, none⟩ = some (.int .i64 x.n) := (World.cell?_of_block (a := ⟨w2.heap.size, 0, none⟩) (hoth _ (by have := hb2.size; show w2.heap.size ≠ B5; omega))).trans a0
  have b1 : w4.cell? ⟨w2.heap.size, 1, none⟩ = some (.slice x.q x.r.length x.c) := (World.cell?_of_block (a := ⟨w2.heap.size, 1, none⟩) (hoth _ (by have := hb2.size; show w2.heap.size ≠ B5; omega))).trans a1
  have z0 : w4.cell? ⟨w.heap.size, 0, none⟩ = some (.int .i64 0) := by simp [World.cell?, hn0]
  have z1 : w4.cell? ⟨w.heap.size, 1, none⟩ = some (.slice none 0 0) := by simp [World.cell?, hn0]
  have zf : ∀ o, w4.frozen? ⟨w.heap.size, o, none⟩ = false := fun o => by simp [World.frozen?, hn0]
  have zf0 := zf 0
  have zf1 := zf 1
  clear a0 a1 c0 c1 hw4
  go_wp2
  have hx : ((w4.setCell ⟨w.heap.size, 0, none⟩ (.int .i64 x.n)).setCell ⟨w.heap.size, 1, none⟩ (.slice x.q x.r.length x.c)).heap[w.heap.size]? = some (.cells #[.int .i64 x.n, .slice x.q x.r.length x.c] 56) := by
    simp only [World.setCell, Array.getElem?_modify, hn0, if_true, Option.map_some]
    rfl
  have hoth5 : ∀ k, k ≠ w.heap.size → ((w4.setCell ⟨w.heap.size, 0, none⟩ (.int .i64 x.n)).setCell ⟨w.heap.size, 1, none⟩ (.slice x.q x.r.length x.c)).heap[k]? = w4.heap[k]? := fun k hk => (Deep.blk_setCell_other _ _ _ _ hk).trans (Deep.blk_setCell_other _ _ _ _ hk)
  have hs5 : ((w4.setCell ⟨w.heap.size, 0, none⟩ (.int .i64 x.n)).setCell ⟨w.heap.size, 1, none⟩ (.slice x.q x.r.length x.c)).heap.size = w4.heap.size := by simp [World.setCell]
  have hg5 : w4.grownBy ((w4.setCell ⟨w.heap.size, 0, none⟩ (.int .i64 x.n)).setCell ⟨w.heap.size, 1, none⟩ (.slice x.q x.r.length x.c)) (some w.heap.size) := ⟨rfl, rfl, rfl, by rw [hs5]; exact Nat.le_refl _, fun k _ hne => hoth5 k (fun e => hne (by rw [e]))⟩
  generalize ((w4.setCell ⟨w.heap.size, 0, none⟩ (.int .i64 x.n)).setCell ⟨w.heap.size, 1, none⟩ (.slice x.q x.r.length x.c)) = w5 at hx hoth5 hs5 hg5 ⊢
  have r0 : w5.cell? ⟨w.heap.size, 0, none⟩ = some (.int .i64 x.n) := by simp [World.cell?, hx]
  have r1 : w5.cell? ⟨w.heap.size, 1, none⟩ = some (.slice x.q x.r.length x.c) := by simp [World.cell?, hx]
  have old : ∀ k, k < w.heap.size → k ≠ B5 → w5.heap[k]? = w.heap[k]? := fun k hk hn => ((hoth5 k (by omega)).trans (hoth k hn)).trans ((hB3.block k (by omega)).trans (hB1.block k hk))
  refine bodyPost_ret (v := .agg #[.int .i64 x.n, .slice x.q x.r.length x.c]) (by simp [results, Tryd.results37, go_sem, asAddr, r0, r1]) rfl ⟨⟨_, rfl⟩, ?_, ?_⟩
  · exact ⟨hg5.os.trans (hg4.os.trans (hB3.os.trans hB1.os)), hg5.tape.trans (hg4.tape.trans (hB3.tape.trans hB1.tape)), hg5.output.trans (hg4.output.trans (hB3.output.trans hB1.output)), by omega, fun k hk hne => old k hk (fun e => hne (by rw [e]))⟩
  · exact H.out w5 ((hoth5 B5 (by omega)).trans hB5) (old g hglt hgB)
end
end Go.Proofs.YtjfeamfchgcblaaDoor
