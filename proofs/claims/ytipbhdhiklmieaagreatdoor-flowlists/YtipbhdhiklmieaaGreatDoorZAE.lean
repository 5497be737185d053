/- The walk's block and its stack as they are written; size, top, push, pop, tooDeep, some, goOn. -/
import Derived.Test.YtipbhdhiklmieaaGreatDoorZAD
set_option linter.all false
set_option maxRecDepth 100000
set_option maxHeartbeats 2000000
namespace Go.Proofs.YtipbhdhiklmieaaGreatDoor
open Go.RowKit Go.Shelf
attribute [local go_sem] Oper.semAt_some
section
variable {w : World} {wb : Nat} {E : Env} {s : St} {ov tv : Value}
theorem wk_blk (h : Wk w wb E s ov tv) (j : Nat) (x : Value) : (w.setCell ⟨wb, j, none⟩ x).heap[wb]? = some (.cells ((#[.slice E.q E.M.length E.c, .int .i64 E.n, .int .i64 E.d, .bool E.b, .int .i64 (s.p.i : Nat), .int .i64 (s.p.k : Nat), ov, tv, .int .i64 (s.ta : Nat)] : Array Value).setIfInBounds j x) 67) := by
 simp only [World.setCell, Array.getElem?_modify, h.blk, if_true, Option.map_some]
 rfl
theorem wk_rows {e k n : Nat} {v : Value} {xs : List Value} (h : w.ownsRow (wb + 1) e k v n xs) (j : Nat) (x : Value) : (w.setCell ⟨wb, j, none⟩ x).ownsRow (wb + 1) e k v n xs :=
 row_same h fun g hg => Below.heap_setCell _ _ _ _ (by have := (row_type h hg).1; show g ≠ wb; omega)
theorem wk_lin (h : Wk w wb E s ov tv) (j : Nat) (x : Value) : LsB wb (w.setCell ⟨wb, j, none⟩ x) E.q E.M :=
 h.lin.on ((Below.refl wb w).setCell (p := ⟨wb, j, none⟩) (Nat.le_refl _) _)
theorem Wk.setI (h : Wk w wb E s ov tv) (i : Nat) : Wk (w.setCell ⟨wb, 4, none⟩ (.int .i64 (i : Nat))) wb E { s with p := ⟨i, s.p.k⟩ } ov tv := ⟨wk_blk h _ _, wk_lin h _ _, wk_rows h.op _ _, wk_rows h.to _ _⟩
theorem Wk.setK (h : Wk w wb E s ov tv) (k : Nat) : Wk (w.setCell ⟨wb, 5, none⟩ (.int .i64 (k : Nat))) wb E { s with p := ⟨s.p.i, k⟩ } ov tv := ⟨wk_blk h _ _, wk_lin h _ _, wk_rows h.op _ _, wk_rows h.to _ _⟩
theorem Wk.setP (h : Wk w wb E s ov tv) (q : Pl) : Wk ((w.setCell ⟨wb, 4, none⟩ (.int .i64 (q.i : Nat))).setCell ⟨wb, 5, none⟩ (.int .i64 (q.k : Nat))) wb E { s with p := q } ov tv := (h.setI q.i).setK q.k
theorem Wk.setTa (h : Wk w wb E s ov tv) (t : Nat) : Wk (w.setCell ⟨wb, 8, none⟩ (.int .i64 (t : Nat))) wb E { s with ta := t } ov tv := ⟨wk_blk h _ _, wk_lin h _ _, wk_rows h.op _ _, wk_rows h.to _ _⟩
theorem Wk.setO {op : List Lv} {v : Value} (h : Wk w wb E s ov tv) (ho : w.ownsRow (wb + 1) 97 7 v op.length (flL op.reverse)) : Wk (w.setCell ⟨wb, 6, none⟩ v) wb E { s with op := op } v tv := ⟨wk_blk h _ _, wk_lin h _ _, wk_rows ho _ _, wk_rows h.to _ _⟩
theorem Wk.kee (h : Wk w wb E s ov tv) (j : Nat) (x : Value) : Kee wb w (w.setCell ⟨wb, j, none⟩ x) := Kee.set h.blk (.inl rfl) (Nat.le_refl _) _ _
theorem Wk.keeP (h : Wk w wb E s ov tv) (q : Pl) : Kee wb w ((w.setCell ⟨wb, 4, none⟩ (.int .i64 (q.i : Nat))).setCell ⟨wb, 5, none⟩ (.int .i64 (q.k : Nat))) := (h.kee 4 _).trans ((h.setI q.i).kee 5 _)
theorem row_set {base e k n g cap : Nat} {xs : List Value} (h : w.ownsRow base e k (.slice (some ⟨g, 0, none⟩) n cap) n xs) (j : Nat) (x : Value) (hj : j < n * k) : (w.setCell ⟨g, j, none⟩ x).ownsRow base e k (.slice (some ⟨g, 0, none⟩) n cap) n (xs.set j x) := by
 obtain ⟨h0, ⟨e1, e2⟩ | ⟨g', cap', cur, e1, hb, hg, h1, h2, h3, h4⟩⟩ := h
 ·cases e1
 ·cases e1
  refine ⟨by simpa using h0, .inr ⟨g, cap, cur.setIfInBounds j x, rfl, hb, ?_, h1, h2, by simpa using h3, ?_⟩⟩
  ·simp only [World.setCell, Array.getElem?_modify, hg, if_true, Option.map_some]
   rfl
  ·rw [Array.toList_setIfInBounds, List.take_set, h4]
theorem row_cell {base e k n g cap : Nat} {xs : List Value} (h : w.ownsRow base e k (.slice (some ⟨g, 0, none⟩) n cap) n xs) (j : Nat) (v : Value) (hj : xs[j]? = some v) : w.cell? ⟨g, j, none⟩ = some v := by
 have := World.ownsRow.cells h (g := g) rfl j v hj
 rw [add_plain, Nat.zero_add] at this
 exact this
theorem row_frozen {base e k n g cap : Nat} {xs : List Value} (h : w.ownsRow base e k (.slice (some ⟨g, 0, none⟩) n cap) n xs) (o : Nat) : w.frozen? ⟨g, o, none⟩ = false := by
 obtain ⟨h0, ⟨e1, e2⟩ | ⟨g', cap', cur, e1, hb, hg, h1⟩⟩ := h
 ·cases e1
 ·cases e1
  simp [World.frozen?, hg]
theorem flL_top (l : Lv) (r : List Lv) : flL (l :: r).reverse = flL r.reverse ++ l.c := by rw [List.reverse_cons, flL_app]; simp [flL]
theorem flL_len' (r : List Lv) : (flL r.reverse).length = r.length * 7 := by rw [flL_len, List.length_reverse]
theorem flL_at (l : Lv) (r : List Lv) (j : Nat) : (flL (l :: r).reverse)[r.length * 7 + j]? = l.c[j]? := by
 rw [flL_top, List.getElem?_append_right (by rw [flL_len']; omega), flL_len', show r.length * 7 + j - r.length * 7 = j by omega]
theorem flL_set (l : Lv) (r : List Lv) (j : Nat) (x : Value) : (flL (l :: r).reverse).set (r.length * 7 + j) x = flL r.reverse ++ l.c.set j x := by
 rw [flL_top, List.set_append_right _ _ (by rw [flL_len']; omega), flL_len', show r.length * 7 + j - r.length * 7 = j by omega]
theorem Wk.top {l : Lv} {r : List Lv} (h : Wk w wb E s ov tv) (hs : s.op = l :: r) : ∃ g cap, ov = .slice (some ⟨g, 0, none⟩) (r.length + 1) cap /\ wb < g /\ g < w.heap.size /\ r.length + 1 <= cap /\ cap <= maxLen /\ (∀ j, w.cell? ⟨g, r.length * 7 + j, none⟩ = l.c[j]? \/ 7 <= j) /\ (∀ o, w.frozen? ⟨g, o, none⟩ = false) /\ ∃ cur, w.heap[g]? = some (.cells cur 97 (0, 0)) := by
 have ho := h.op
 rw [hs] at ho
 obtain ⟨h0, ⟨e1, e2⟩ | ⟨g, cap, cur, e1, hb, hg, h1, h2, h3⟩⟩ := ho
 ·cases e2
 ·rw [List.length_cons] at e1 h1
  refine ⟨g, cap, e1, hb, (Array.getElem?_eq_some_iff.1 hg).1, h1, h2, fun j => ?_, fun o => by simp [World.frozen?, hg], cur, hg⟩
  rcases Nat.lt_or_ge j 7 with hj | hj
  ·left
   have hc := flL_at l r j
   have hl : j < l.c.length := by simpa [Lv.c] using hj
   rw [List.getElem?_eq_getElem hl] at hc |-
   have ho2 := h.op
   rw [hs, e1] at ho2
   exact row_cell ho2 _ _ hc
  ·exact .inr hj
theorem Wk.setL {l l' : Lv} {r : List Lv} {g cap j : Nat} {x : Value} (h : Wk w wb E s (.slice (some ⟨g, 0, none⟩) (r.length + 1) cap) tv) (hs : s.op = l :: r) (hj : j < 7) (hc : l.c.set j x = l'.c) :
  Wk (w.setCell ⟨g, r.length * 7 + j, none⟩ x) wb E { s with op := l' :: r } (.slice (some ⟨g, 0, none⟩) (r.length + 1) cap) tv /\ Kee wb w (w.setCell ⟨g, r.length * 7 + j, none⟩ x) := by
 have ho := h.op
 rw [hs] at ho
 obtain ⟨h1, cur, h2⟩ := row_type ho (g := g) rfl
 have hne : wb ≠ g := by omega
 refine ⟨⟨(Below.heap_setCell _ _ _ _ hne).trans h.blk, h.lin.on ((Below.refl wb w).setCell (p := ⟨g, r.length * 7 + j, none⟩) (show wb <= g by omega) _), ?_, row_same h.to fun g2 hg2 => ?_⟩, Kee.set h2 (.inr (.inl rfl)) (by omega) _ _⟩
 ·have := row_set ho (r.length * 7 + j) x (by omega)
  rw [flL_set, hc] at this
  rw [show flL (l' :: r).reverse = flL r.reverse ++ l'.c from flL_top l' r]
  exact this
 ·obtain ⟨-, cur2, h3⟩ := row_type h.to hg2
  refine Below.heap_setCell _ _ _ _ (fun e => ?_)
  dsimp only at e
  rw [e, h2] at h3
  cases h3
end
theorem Tryz.info97 : (Tryz.prog.info? 97).map (fun i => (i.zero, i.size, i.bytes)) = some (some (.agg #[.int .i64 0, .bool false, .int .u8 0, .int .i64 0, .int .i64 0, .int .i64 0, .int .i64 0]), 7, 48) := by kernel_rfl
theorem Tryz.info50 : (Tryz.prog.info? 50).map (fun i => (i.zero, i.size, i.bytes)) = some (some (.agg #[.int .i64 0, .string ⟨#[]⟩, .string ⟨#[]⟩, .string ⟨#[]⟩, .int .i64 0, .bool false]), 6, 72) := by kernel_rfl
theorem new_cells (w : World) (c : List Value) (t : TypeId) : ∀ (j : Nat) (u : Value), c[j]? = some u -> (w.alloc (.cells c.toArray t)).cell? ((⟨w.heap.size, 0, none⟩ : Addr).add j) = some u := fun j u hj => by
 rw [add_plain, Nat.zero_add, box_new]
 simpa using hj
theorem pushL {w : World} {base n : Nat} {v : Value} {xs : List Value} (h : w.ownsRow base 97 7 v n xs) (hb : base <= w.heap.size) (hn : n <= 1073741824) (x : Lv) :
  ∃ g cap w1, (Builtin.append_ #[63, 63] 63 #[v, .slice (some ⟨w.heap.size, 0, none⟩) 1 1]).run Tryz.prog (w.alloc (.cells x.c.toArray 97)) = .ok (.slice (some ⟨g, 0, none⟩) (n + 1) cap) w1 /\ w1.ownsRow base 97 7 (.slice (some ⟨g, 0, none⟩) (n + 1) cap) (n + 1) (xs ++ x.c) /\ (w.alloc (.cells x.c.toArray 97)).grownBy w1 v.ownBlock := by
 obtain ⟨i0, hi, hz0, hz1, hz2⟩ := info_parts Tryz.info97
 obtain ⟨g, cap, w', hr, ho, hg, -⟩ := run_append_lies (P := Tryz.prog) (w.alloc (.cells x.c.toArray 97)) 63 63 base 97 i0 _ 7 48 (by kernel_rfl) hi hz0 hz1 hz2 rfl (by decide) v n xs (World.ownsRow.alloc h _)
  ⟨w.heap.size, 0, none⟩ 1 1 x.c rfl (new_cells w x.c 97) (by simp [Lv.c, Value.oneCell']) (by decide) (by unfold maxLen; omega) (by omega) (by simp; omega) _ rfl
 exact ⟨g, cap, w', hr, ho, hg⟩
theorem pushE {w : World} {base n : Nat} {v : Value} {xs : List Value} (h : w.ownsRow base 50 6 v n xs) (hb : base <= w.heap.size) (hn : n <= 1073741824) (x : Ev) :
  ∃ g cap w1, (Builtin.append_ #[27, 27] 27 #[v, .slice (some ⟨w.heap.size, 0, none⟩) 1 1]).run Tryz.prog (w.alloc (.cells x.c.toArray 50)) = .ok (.slice (some ⟨g, 0, none⟩) (n + 1) cap) w1 /\ w1.ownsRow base 50 6 (.slice (some ⟨g, 0, none⟩) (n + 1) cap) (n + 1) (xs ++ x.c) /\ (w.alloc (.cells x.c.toArray 50)).grownBy w1 v.ownBlock := by
 obtain ⟨i0, hi, hz0, hz1, hz2⟩ := info_parts Tryz.info50
 obtain ⟨g, cap, w', hr, ho, hg, -⟩ := run_append_lies (P := Tryz.prog) (w.alloc (.cells x.c.toArray 50)) 27 27 base 50 i0 _ 6 72 (by kernel_rfl) hi hz0 hz1 hz2 rfl (by decide) v n xs (World.ownsRow.alloc h _)
  ⟨w.heap.size, 0, none⟩ 1 1 x.c rfl (new_cells w x.c 50) (by simp [Ev.c, Value.oneCell']) (by decide) (by unfold maxLen; omega) (by omega) (by simp; omega) _ rfl
 exact ⟨g, cap, w', hr, ho, hg⟩
theorem nexF_err {O : Orc} {L : List Lp} {n : Int} : ∀ (f : Nat) (q : Pl) (b : Bool) (c : Int), nexF O L n f q b = .error c -> c = 7
 | 0, q, b, c, h => by cases h
 | f + 1, q, b, c, h => by
  rw [nexF] at h
  split at h
  ·cases h
  ·split at h
   ·cases h
   ·split at h
    ·exact nexF_err f _ _ _ h
    ·split at h
     ·cases h; rfl
     ·cases h
theorem nex_err {O : Orc} {L : List Lp} {n : Int} {p : Pl} {c : Int} (h : nexW O L n p = .error c) : c = 7 := nexF_err _ _ _ _ h
section
variable {w : World} {wb : Nat} {E : Env} {s : St} {ov tv : Value}
theorem own_len {base e k n : Nat} {v : Value} {xs : List Value} (h : w.ownsRow base e k v n xs) : ∃ a c, v = .slice a n c /\ n <= c /\ c <= maxLen := by
 obtain ⟨-, ⟨e1, e2⟩ | ⟨g, cap, cur, e1, hb, hg, h1, h2, -⟩⟩ := h
 ·exact ⟨none, 0, by rw [e1, e2], by omega, Nat.zero_le _⟩
 ·exact ⟨_, cap, e1, h1, h2⟩
theorem size_any (h : Wk w wb E s ov tv) (hl : s.op.length <= 1073741824) :
  Calls Tryz.prog 41 #[.pointer (some ⟨wb, 6, none⟩)] w fun en w' => en = .returned (.int .i64 (s.op.length : Nat)) /\ w' = w := by
 obtain ⟨a, c, rfl, h1, h2⟩ := own_len h.op
 have c6 := h.cell 6
 simp at c6
 clear h
 go_enter Tryz.func41, Tryz.ntmps41
 go_wp2
 go_ret
 exact ⟨rfl, rfl⟩
theorem top_any {l : Lv} {r : List Lv} {g cap : Nat} (h : Wk w wb E s (.slice (some ⟨g, 0, none⟩) (r.length + 1) cap) tv) (hl : r.length <= 1073741824) :
  Calls Tryz.prog 73 #[.pointer (some ⟨wb, 6, none⟩)] w fun en w' => en = .returned (.pointer (some ⟨g, r.length * 7, none⟩)) /\ Below w.heap.size w w' := by
 have c6 := h.cell 6
 simp at c6
 have e1 : (r.length : Int) <= 1073741824 := by omega
 generalize r.length = n at *
 have e2 : (n : Int) < (n : Int) + 1 := by omega
 clear h
 go_enter Tryz.func73, Tryz.ntmps73
 go_wp2
 go_quiet (fail)
 go_wp2
 go_ret
 exact ⟨rfl, Below.drewN (Below.refl _ _) _⟩
theorem tooDeep_any (h : Wk w wb E s ov tv) (hf : Fine E) (hl : s.op.length <= 1073741824) (n : Nat) (hn : n <= 1073741824) :
  Calls Tryz.prog 111 #[.pointer (some ⟨wb, 0, none⟩), .int .i64 (n : Nat)] w fun en w' => en = .returned (.bool (deeW E.d s n)) /\ Below w.heap.size w w' := by
 have c2 := h.cell 2
 simp at c2
 have SZ : ∀ k : Nat, Calls Tryz.prog 41 #[.pointer (some ⟨wb, 6, none⟩)] (w.drewN k) fun en w' => en = .returned (.int .i64 (s.op.length : Nat)) /\ w' = w.drewN k := fun k => size_any (h.on (Below.drewN (Below.refl _ _) k)) hl
 have d1 := hf.dl
 have d2 := hf.dh
 have e1 : (s.op.length : Int) <= 1073741824 := by omega
 have e2 : (n : Int) <= 1073741824 := by omega
 unfold deeW
 generalize s.op.length = m at *
 clear h hl hn
 go_enter Tryz.func111, Tryz.ntmps111
 go_wp2
 go_quiet (first | (go_at_call 41; exact Calls.quiet_of_same (SZ _)))
 go_wp2
 go_ret
 exact ⟨rfl, Below.drewN (Below.refl _ _) _⟩
abbrev Hs.v (x : Hs) : Value := .agg #[.string x.an, .string x.tg, .int .i64 (x.bi : Nat), .int .i64 (x.bk : Nat)]
theorem str_isE (x : ByteArray) : x.toList.isEmpty = decide (x.size = 0) := by
 rw [Go.ByteArray.toList_eq, Bool.eq_iff_iff, List.isEmpty_iff, decide_eq_true_iff]
 cases x with
 | mk d => simp [ByteArray.size]
theorem some_any (x : Hs) (w : World) : Calls Tryz.prog 102 #[x.v] w fun en w' => en = .returned (.bool x.so) /\ Below w.heap.size w w' := by
 obtain ⟨an, tg, bi, bk⟩ := x
 have bx := box_new w #[.string an, .string tg, .int .i64 (bi : Nat), .int .i64 (bk : Nat)] 125
 have x0 := bx 0
 have x1 := bx 1
 simp at x0 x1
 unfold Hs.so
 dsimp only
 have h1 := str_isE an
 have h2 := str_isE tg
 clear bx
 by_cases e1 : an.size = 0
 ·rw [decide_eq_true e1] at h1
  by_cases e2 : tg.size = 0
  ·rw [decide_eq_true e2] at h2
   rw [decide_eq_false (fun h => h e1), decide_eq_false (fun h => h e2)]
   clear e1 e2
   go_enter Tryz.func102, Tryz.ntmps102
   go_wp2
   go_ret
   exact ⟨rfl, below_alloc _ _⟩
  ·rw [decide_eq_false e2] at h2
   rw [decide_eq_false (fun h => h e1), decide_eq_true e2]
   clear e1 e2
   go_enter Tryz.func102, Tryz.ntmps102
   go_wp2
   go_ret
   exact ⟨rfl, below_alloc _ _⟩
 ·rw [decide_eq_false e1] at h1
  rw [decide_eq_true e1]
  clear e1 h2
  go_enter Tryz.func102, Tryz.ntmps102
  go_wp2
  go_ret
  exact ⟨rfl, below_alloc _ _⟩
def Post (wb : Nat) (E : Env) (w : World) (r : Except Int St) (en : Ending) (w' : World) : Prop :=
 Kee wb w w' /\ match r with | .ok s => en = .returned (.int .i64 0) /\ ∃ ov tv, Wk w' wb E s ov tv | .error c => en = .returned (.int .i64 c)
theorem goOn_any {O : Orc} (LO : LowC O) (LL : LowL O) (h : Wk w wb E s ov tv) (hf : Fine E) (hp : Okp E s.p) :
  Calls Tryz.prog 119 #[.pointer (some ⟨wb, 0, none⟩)] w fun en w' => Kee wb w w' /\ match gonW O E.L E.n s.p with | .ok q => en = .returned (.int .i64 0) /\ Wk w' wb E { s with p := q } ov tv | .error c => en = .returned (.int .i64 c) /\ c ≠ 0 := by
 have NX := next_any LO LL h hf hp
 have c4 := h.cell 4
 have c5 := h.cell 5
 simp at c4 c5
 unfold gonW
 have hnz : ∀ c, nexW O E.L E.n s.p = .error c -> c ≠ 0 := fun c hc => by rw [nex_err hc]; decide
 cases hr : nexW O E.L E.n s.p with
 | error c =>
  have h0 := hnz c hr
  have h1 : (c == 0) = false := by rw [beq_eq_false_iff_ne]; exact h0
  have h2 : (c != 0) = true := by simp [h0]
  rw [hr] at NX
  simp only [nexV] at NX
  clear hr hnz
  go_enter Tryz.func119, Tryz.ntmps119
  go_wp2_with (first | (go_at_call 98; refine NX.mono ?_; clear NX; rintro en W1 ⟨rfl, hB⟩))
  go_ret
  exact ⟨Kee.of ((hB.alloc hB.size _)), rfl, h0⟩
 | ok o =>
  cases o with
  | none =>
   rw [hr] at NX
   simp only [nexV] at NX
   clear hr hnz
   go_enter Tryz.func119, Tryz.ntmps119
   go_wp2_with (first | (go_at_call 98; refine NX.mono ?_; clear NX; rintro en W1 ⟨rfl, hB⟩))
   go_ret
   exact ⟨Kee.of ((hB.alloc hB.size _)), rfl, by decide⟩
  | some q =>
   rw [hr] at NX
   simp only [nexV, Pl.v] at NX
   have HF : Hid (∀ W1, Below w.heap.size w W1 -> W1.cell? ⟨wb, 4, none⟩ = some (.int .i64 (s.p.i : Nat)) /\ W1.frozen? ⟨wb, 4, none⟩ = false /\ W1.cell? ⟨wb, 5, none⟩ = some (.int .i64 (s.p.k : Nat)) /\ W1.frozen? ⟨wb, 5, none⟩ = false /\ Wk W1 wb E s ov tv) := fun W1 hB => by
    have h1 := h.on hB
    have e1 := h1.cell 4
    have e2 := h1.cell 5
    simp at e1 e2
    exact ⟨e1, h1.frozen 4, e2, h1.frozen 5, h1⟩
   have hwl := h.lt
   clear hr hnz h
   go_enter Tryz.func119, Tryz.ntmps119
   go_wp2_with (first | (go_at_call 98; refine NX.mono ?_; clear NX; rintro en W1 ⟨rfl, hB⟩; obtain ⟨g1, g2, g3, g4, g5⟩ := HF.out (W1.alloc (.cells #[.int .i64 (q.i : Nat), .int .i64 (q.k : Nat)] 60)) (hB.alloc hB.size _); have b0 := box_new W1 #[.int .i64 (q.i : Nat), .int .i64 (q.k : Nat)] 60 0; have b1 := box_new W1 #[.int .i64 (q.i : Nat), .int .i64 (q.k : Nat)] 60 1; simp at b0 b1; have HG : Hid _ := g5; clear g5))
   go_ret
   exact ⟨(Kee.of (hB.alloc hB.size _)).trans (HG.out.keeP q), rfl, HG.out.setP q⟩
end
def Tw (W : World) (wb b : Nat) (w' : World) : Prop := w'.heap[wb]? = W.heap[wb]? /\ w'.heap[b]? = W.heap[b]?
theorem Tw.cell {W w' : World} {wb b : Nat} (h : Tw W wb b w') {o : Nat} {v : Value} (hc : W.cell? ⟨wb, o, none⟩ = some v) : w'.cell? ⟨wb, o, none⟩ = some v := (World.cell?_of_block (a := ⟨wb, o, none⟩) h.1).trans hc
theorem Tw.box {W w' : World} {wb b : Nat} (h : Tw W wb b w') {o : Nat} {v : Value} (hc : W.cell? ⟨b, o, none⟩ = some v) : w'.cell? ⟨b, o, none⟩ = some v := (World.cell?_of_block (a := ⟨b, o, none⟩) h.2).trans hc
theorem opIn_append_run {F : Fence} {n : Nat} {P : Program} {w w' : World} {o : Oper} {a : Act} {Q : Exit -> Act -> World -> Prop} {K : Act -> World -> Prop} (s x : Operand) (t : TypeId)
  (ho : o.op = .call { callee := .builtin .append, args := #[s, x], argTypes := #[t, t] }) {u y v : Value} (hs : a.eval s = u) (hx : a.eval x = y)
  (hrun : (Builtin.append_ #[t, t] o.type #[u, y]).run P w = .ok v w') (h : K (a.put o.dst v) w') : Oper.wpIn F n P o a w K Q := by
 unfold Oper.wpIn
 refine ⟨?_, ?_⟩
 ·simp [Oper.about, ho, resolve, Target.leads, Sem.run_pure]
 ·rw [Oper.semAt_plain F _ _ (by rw [ho]; intro c hc'; cases hc')]
  simp [execOp, ho, resolve, invoke, builtin, hs, hx, hrun, Result.andThen]
  exact h
theorem Wk.drew {w : World} {wb : Nat} {E : Env} {s : St} {ov tv : Value} (h : Wk w wb E s ov tv) : Wk w.drew wb E s ov tv := h.on ((Below.refl _ w).drew)
abbrev yzae0 (w : World) (x : Lv) : World := (w.alloc (.cells #[.int .i64 x.cl, .bool x.pr, .int .u8 (x.nx : Nat), .int .i64 (x.bi : Nat), .int .i64 (x.bk : Nat), .int .i64 (x.ho : Nat), .int .i64 (x.ta : Nat)] 97))
theorem push_any {w : World} {wb : Nat} {E : Env} {s : St} {ov tv : Value} (h : Wk w wb E s ov tv) (hl : s.op.length <= 1073741824) (x : Lv) :
  Calls Tryz.prog 112 #[(.pointer (some ⟨wb, 6, none⟩)), x.v] w fun en w' => (∃ v, en = .returned v) /\ Kee wb w w' /\ ∃ ov', Wk w' wb E { s with op := x :: s.op } ov' tv := by
 refine (callsIn_wide (n := 9)).1 ?_
 have hwl := h.lt
 have k1 := below_alloc w (.cells #[.int .i64 x.cl, .bool x.pr, .int .u8 (x.nx : Nat), .int .i64 (x.bi : Nat), .int .i64 (x.bk : Nat), .int .i64 (x.ho : Nat), .int .i64 (x.ta : Nat)] 97)
 have h1 := (h.on k1).drew
 have hsz : (yzae0 w x).heap.size = w.heap.size + 1 := by simp
 have c6 := (h.on k1).cell 6
 simp at c6
 have bx := box_new w #[.int .i64 x.cl, .bool x.pr, .int .u8 (x.nx : Nat), .int .i64 (x.bi : Nat), .int .i64 (x.bk : Nat), .int .i64 (x.ho : Nat), .int .i64 (x.ta : Nat)] 97
 have x0 : (yzae0 w x).cell? ⟨w.heap.size, 0, none⟩ = some (.int .i64 x.cl) := bx 0
 have x1 : (yzae0 w x).cell? ⟨w.heap.size, 1, none⟩ = some (.bool x.pr) := bx 1
 have x2 : (yzae0 w x).cell? ⟨w.heap.size, 2, none⟩ = some (.int .u8 (x.nx : Nat)) := bx 2
 have x3 : (yzae0 w x).cell? ⟨w.heap.size, 3, none⟩ = some (.int .i64 (x.bi : Nat)) := bx 3
 have x4 : (yzae0 w x).cell? ⟨w.heap.size, 4, none⟩ = some (.int .i64 (x.bk : Nat)) := bx 4
 have x5 : (yzae0 w x).cell? ⟨w.heap.size, 5, none⟩ = some (.int .i64 (x.ho : Nat)) := bx 5
 have x6 : (yzae0 w x).cell? ⟨w.heap.size, 6, none⟩ = some (.int .i64 (x.ta : Nat)) := bx 6
 have T0 : Tw (yzae0 w x) wb w.heap.size (yzae0 w x).drew := ⟨rfl, rfl⟩
 have T1 : Tw (yzae0 w x) wb w.heap.size (((yzae0 w x).alloc (.cells #[.int .i64 x.cl, .bool x.pr, .int .u8 (x.nx : Nat), .int .i64 (x.bi : Nat), .int .i64 (x.bk : Nat), .int .i64 (x.ho : Nat), .int .i64 (x.ta : Nat)] 97)).drew) := ⟨Below.heap_alloc _ _ _ (by rw [hsz]; omega), Below.heap_alloc _ _ _ (by rw [hsz]; omega)⟩
 obtain ⟨g, cap, w1, hr, ho, hg⟩ := pushL (w := (yzae0 w x).drew) (row_on h.op k1.drew) (by show _ <= (yzae0 w x).heap.size; rw [hsz]; omega) hl x
 have hwe : (yzae0 w x).drew.alloc (.cells x.c.toArray 97) = ((yzae0 w x).alloc (.cells #[.int .i64 x.cl, .bool x.pr, .int .u8 (x.nx : Nat), .int .i64 (x.bi : Nat), .int .i64 (x.bk : Nat), .int .i64 (x.ho : Nat), .int .i64 (x.ta : Nat)] 97)).drew := rfl
 have hse : (yzae0 w x).drew.heap.size = w.heap.size + 1 := hsz
 rw [hwe, hse] at hr
 rw [hwe] at hg
 have hr2 : (Builtin.append_ #[63, 63] 63 #[ov, (.slice (some ⟨w.heap.size + 1, 0, none⟩) 1 1)]).run Tryz.prog (((yzae0 w x).alloc (.cells #[.int .i64 x.cl, .bool x.pr, .int .u8 (x.nx : Nat), .int .i64 (x.bi : Nat), .int .i64 (x.bk : Nat), .int .i64 (x.ho : Nat), .int .i64 (x.ta : Nat)] 97)).drew) = .ok (.slice (some ⟨g, 0, none⟩) (s.op.length + 1) cap) w1 := hr
 have hgn : ∀ k, k < w.heap.size + 2 -> some k ≠ ov.ownBlock -> w1.heap[k]? = (((yzae0 w x).alloc (.cells #[.int .i64 x.cl, .bool x.pr, .int .u8 (x.nx : Nat), .int .i64 (x.bi : Nat), .int .i64 (x.bk : Nat), .int .i64 (x.ho : Nat), .int .i64 (x.ta : Nat)] 97)).drew).heap[k]? := fun k hk hne => hg.block k (by simp; omega) hne
 have hov : ∀ g, ov.ownBlock = some g -> wb < g /\ g < w.heap.size /\ ∃ cur, w.heap[g]? = some (.cells cur 97 (0, 0)) := fun g e => by
  obtain ⟨a1, cur, a2⟩ := row_type h.op e
  exact ⟨a1, (Array.getElem?_eq_some_iff.1 a2).1, cur, a2⟩
 have hnw : some wb ≠ ov.ownBlock := fun e => by have := (hov wb e.symm).1; omega
 have hnb : some w.heap.size ≠ ov.ownBlock := fun e => by have := (hov _ e.symm).2.1; omega
 have T2 : Tw (yzae0 w x) wb w.heap.size w1 := ⟨(hgn _ (by omega) hnw).trans T1.1, (hgn _ (by omega) hnb).trans T1.2⟩
 have hb1 : w1.heap[wb]? = w.heap[wb]? := T2.1.trans (Below.heap_alloc _ _ _ hwl)
 have kk : Kee wb w w1 := (Kee.of ((k1.alloc (by simp) (.cells #[.int .i64 x.cl, .bool x.pr, .int .u8 (x.nx : Nat), .int .i64 (x.bi : Nat), .int .i64 (x.bk : Nat), .int .i64 (x.ho : Nat), .int .i64 (x.ta : Nat)] 97)).drew)).trans (Kee.grown hg fun g e => by
  obtain ⟨a1, a2, cur, a3⟩ := hov g e
  exact ⟨by omega, cur, 97, (0, 0), (Below.heap_alloc _ _ _ (by rw [hsz]; omega)).trans ((Below.heap_alloc _ _ _ a2).trans a3), .inr (.inl rfl)⟩)
 have hto : w1.ownsRow (wb + 1) 50 6 tv s.to.length (flE s.to) := row_same h.to fun g e => by
  obtain ⟨a1, cur, a2⟩ := row_type h.to e
  have a3 := (Array.getElem?_eq_some_iff.1 a2).1
  rw [hgn g (by omega) (fun e2 => by obtain ⟨-, -, cur2, a4⟩ := hov g e2.symm; rw [a2] at a4; cases a4)]
  exact (Below.heap_alloc _ _ _ (by rw [hsz]; omega)).trans (Below.heap_alloc _ _ _ a3)
 have hbl : w1.heap[wb]? = some (.cells #[.slice E.q E.M.length E.c, .int .i64 E.n, .int .i64 E.d, .bool E.b, .int .i64 (s.p.i : Nat), .int .i64 (s.p.k : Nat), ov, tv, .int .i64 (s.ta : Nat)] 67) := hb1.trans h.blk
 have FIN : Hid (Kee wb w (w1.setCell ⟨wb, 6, none⟩ (.slice (some ⟨g, 0, none⟩) (s.op.length + 1) cap)) /\ Wk (w1.setCell ⟨wb, 6, none⟩ (.slice (some ⟨g, 0, none⟩) (s.op.length + 1) cap)) wb E { s with op := x :: s.op } (.slice (some ⟨g, 0, none⟩) (s.op.length + 1) cap) tv) := by
  refine ⟨kk.trans (Kee.set hbl (.inl rfl) (Nat.le_refl _) _ _), ?_, ?_, ?_, wk_rows hto _ _⟩
  ·simp only [World.setCell, Array.getElem?_modify, hbl, if_true, Option.map_some]
   rfl
  ·exact h.lin.on ((kk.below (Nat.le_of_lt hwl)).setCell (p := ⟨wb, 6, none⟩) (Nat.le_refl _) _)
  ·have := wk_rows ho 6 (.slice (some ⟨g, 0, none⟩) (s.op.length + 1) cap)
   rw [show flL (x :: s.op).reverse = flL s.op.reverse ++ x.c from flL_top x s.op]
   exact this
 have f6 : w1.frozen? ⟨wb, 6, none⟩ = false := by simp [World.frozen?, hbl]
 have g6 : w1.cell? ⟨wb, 6, none⟩ = some ov := T2.cell c6
 refine callsIn_of_wp Tryz.func112 rfl trivial ?_ rfl
 simp only [Tryz.ntmps112, frm, Nat.reduceAdd, Nat.reduceSub]
 clear h h1 hg ho hgn hov hnw hnb hb1 kk hto hbl hr bx k1
 gi_wp2
 refine region_pickS (Til 10 (Tw (yzae0 w x) wb w.heap.size)) (by kernel_rfl) ?_
 show AnyS _ _ _ _ _ _ 11 _ ⟨#[_,_,_,_,_,_,_,_,_,_,_,_,_,_], []⟩ (yzae0 w x).drew
 refine .tk 0 (.pointer (some ⟨wb, 6, none⟩)) wideF rfl (.inl ⟨rfl, fun w _ => by go_simp⟩) (fun _ => T0) ?_
 refine .tk 1 (.pointer (some ⟨wb, 6, none⟩)) wideF rfl (.inl ⟨rfl, fun w _ => by go_simp⟩) (fun _ => T0) ?_
 refine .tk 2 (.pointer (some ⟨wb, 6, none⟩)) wideF rfl (.inl ⟨rfl, fun w _ => by go_simp⟩) (fun _ => T0) ?_
 refine .tk 3 (.pointer (some ⟨wb, 6, none⟩)) wideF rfl (.inl ⟨rfl, fun w _ => by go_simp⟩) (fun _ => T0) ?_
 refine .tk 4 ov wideF rfl (til_tells (s := 10) [7, 10] (by kernel_rfl) rfl rfl (fun w hw => by have a1 := hw.cell c6; go_simp)) (fun _ => T0) ?_
 refine .tk 5 (.agg #[.int .i64 x.cl, .bool x.pr, .int .u8 (x.nx : Nat), .int .i64 (x.bi : Nat), .int .i64 (x.bk : Nat), .int .i64 (x.ho : Nat), .int .i64 (x.ta : Nat)]) wideF rfl (til_tells (s := 10) [6, 7, 10] (by kernel_rfl) rfl rfl (fun w hw => by have a0 := hw.box x0; have a1 := hw.box x1; have a2 := hw.box x2; have a3 := hw.box x3; have a4 := hw.box x4; have a5 := hw.box x5; have a6 := hw.box x6; go_simp)) (fun _ => T0) ?_
 show AnyS _ _ _ _ _ _ 5 _ ⟨#[_,_,_,_,_,_,_,_,_,_,_,_,_,_], []⟩ _
 refine AnyS.one (i := 6) (by kernel_rfl) rfl rfl (fun K hK => ?_)
 go_simp
 refine hK _ _ (fun _ => T1) ?_
 clear hK K
 show AnyS _ _ _ _ _ _ 4 _ ⟨#[_,_,_,_,_,_,_,_,_,_,_,_,_,_], []⟩ ((yzae0 w x).alloc (.cells #[.int .i64 x.cl, .bool x.pr, .int .u8 (x.nx : Nat), .int .i64 (x.bi : Nat), .int .i64 (x.bk : Nat), .int .i64 (x.ho : Nat), .int .i64 (x.ta : Nat)] 97)).drew
 refine AnyS.one (i := 7) (by kernel_rfl) rfl rfl (fun K hK => ?_)
 refine opIn_append_run _ _ 63 rfl rfl rfl hr2 ?_
 refine hK _ _ (fun _ => T2) ?_
 clear hK K
 show AnyS _ _ _ _ _ _ 3 _ ⟨#[_,_,_,_,_,_,_,_,_,_,_,_,_,_], []⟩ w1
 refine .tk 8 (.pointer (some ⟨wb, 6, none⟩)) wideF rfl (.inl ⟨rfl, fun w _ => by go_simp⟩) (fun _ => T2) ?_
 refine .tk 9 (.pointer (some ⟨wb, 6, none⟩)) wideF rfl (.inl ⟨rfl, fun w _ => by go_simp⟩) (fun _ => T2) ?_
 refine AnyS.one (i := 10) (by kernel_rfl) rfl rfl (fun K hK => ?_)
 go_simp
 refine hK _ _ (fun h => by cases h) ?_
 clear hK K
 show AnyS _ _ _ _ _ _ 0 _ ⟨#[_,_,_,_,_,_,_,_,_,_,_,_,_,_], []⟩ (w1.setCell ⟨wb, 6, none⟩ (.slice (some ⟨g, 0, none⟩) (s.op.length + 1) cap))
 refine AnyS.done (by kernel_rfl) ?_
 simp only [nrm]
 go_end0
 exact ⟨⟨_, rfl⟩, FIN.out.1, _, FIN.out.2⟩
theorem told_push {w : World} {wb : Nat} {E : Env} {s : St} {ov tv : Value} (h : Wk w wb E s ov tv) (hn : s.to.length <= 1073741824) (x : Ev) :
  ∃ g cap w1, (Builtin.append_ #[27, 27] 27 #[tv, .slice (some ⟨w.heap.size, 0, none⟩) 1 1]).run Tryz.prog ((w.alloc (.cells x.c.toArray 50)).drew) = .ok (.slice (some ⟨g, 0, none⟩) (s.to.length + 1) cap) w1 /\ (∀ b, b < w.heap.size -> some b ≠ tv.ownBlock -> w1.heap[b]? = w.heap[b]?) /\
   (∀ g, tv.ownBlock = some g -> wb < g /\ g < w.heap.size /\ ∃ cur, w.heap[g]? = some (.cells cur 50 (0, 0))) /\ w1.frozen? ⟨wb, 7, none⟩ = false /\ w1.cell? ⟨wb, 7, none⟩ = some tv /\
   Kee wb w (w1.setCell ⟨wb, 7, none⟩ (.slice (some ⟨g, 0, none⟩) (s.to.length + 1) cap)) /\ Wk (w1.setCell ⟨wb, 7, none⟩ (.slice (some ⟨g, 0, none⟩) (s.to.length + 1) cap)) wb E { s with to := s.to ++ [x] } ov (.slice (some ⟨g, 0, none⟩) (s.to.length + 1) cap) := by
 have hwl := h.lt
 obtain ⟨g, cap, w1, hr, ho, hg⟩ := pushE (w := w.drew) (row_on h.to ((Below.refl _ w).drew)) (by show wb + 1 <= w.heap.size; omega) hn x
 have hwe : w.drew.alloc (.cells x.c.toArray 50) = (w.alloc (.cells x.c.toArray 50)).drew := rfl
 have hse : w.drew.heap.size = w.heap.size := rfl
 rw [hwe, hse] at hr
 rw [hwe] at hg
 have hov : ∀ g, tv.ownBlock = some g -> wb < g /\ g < w.heap.size /\ ∃ cur, w.heap[g]? = some (.cells cur 50 (0, 0)) := fun g e => by
  obtain ⟨a1, cur, a2⟩ := row_type h.to e
  exact ⟨a1, (Array.getElem?_eq_some_iff.1 a2).1, cur, a2⟩
 have hgn : ∀ b, b < w.heap.size -> some b ≠ tv.ownBlock -> w1.heap[b]? = w.heap[b]? := fun b hb hne => (hg.block b (by simp; omega) hne).trans (Below.heap_alloc w _ b hb)
 have hnw : some wb ≠ tv.ownBlock := fun e => by have := (hov wb e.symm).1; omega
 have hbl : w1.heap[wb]? = some (.cells #[.slice E.q E.M.length E.c, .int .i64 E.n, .int .i64 E.d, .bool E.b, .int .i64 (s.p.i : Nat), .int .i64 (s.p.k : Nat), ov, tv, .int .i64 (s.ta : Nat)] 67) := (hgn wb hwl hnw).trans h.blk
 have kk : Kee wb w w1 := (Kee.of ((below_alloc w (.cells x.c.toArray 50)).drew)).trans (Kee.grown hg fun g e => by
  obtain ⟨a1, a2, cur, a3⟩ := hov g e
  exact ⟨by omega, cur, 50, (0, 0), (Below.heap_alloc _ _ _ a2).trans a3, .inr (.inr rfl)⟩)
 have hop : w1.ownsRow (wb + 1) 97 7 ov s.op.length (flL s.op.reverse) := row_same h.op fun g e => by
  obtain ⟨a1, cur, a2⟩ := row_type h.op e
  exact hgn g (Array.getElem?_eq_some_iff.1 a2).1 (fun e2 => by obtain ⟨-, -, cur2, a4⟩ := hov g e2.symm; rw [a2] at a4; cases a4)
 refine ⟨g, cap, w1, hr, hgn, hov, by simp [World.frozen?, hbl], ?_, kk.trans (Kee.set hbl (.inl rfl) (Nat.le_refl _) _ _), ?_, ?_, wk_rows hop _ _, ?_⟩
 ·show (match w1.heap[wb]? with | some (.cells c _ _) => c[7]? | _ => none) = _
  rw [hbl]
  rfl
 ·simp only [World.setCell, Array.getElem?_modify, hbl, if_true, Option.map_some]
  rfl
 ·exact h.lin.on ((kk.below (Nat.le_of_lt hwl)).setCell (p := ⟨wb, 7, none⟩) (Nat.le_refl _) _)
 ·have := wk_rows ho 7 (.slice (some ⟨g, 0, none⟩) (s.to.length + 1) cap)
  rw [show (s.to ++ [x]).length = s.to.length + 1 by simp, flE_app, show flE [x] = x.c by simp [flE]]
  exact this
abbrev yzae1 (w : World) (x : Ev) : World := (w.alloc (.cells #[.int .i64 x.k, .string x.tx, .string x.tg, .string x.an, .int .i64 x.st, .bool x.fl] 50))
theorem tell_any {w : World} {wb : Nat} {E : Env} {s : St} {ov tv : Value} (h : Wk w wb E s ov tv) (hn : s.to.length <= 1073741824) (hl : s.op.length <= 1073741824) (ha : ∀ l ∈ s.op, l.ta <= 1073741824) (x : Ev) (t : Nat) (ht : t <= 1073741824) :
  Calls Tryz.prog 104 #[(.pointer (some ⟨wb, 0, none⟩)), x.v, .int .i64 (t : Nat)] w fun en w' => (∃ v, en = .returned v) /\ Kee wb w w' /\ ∃ ov' tv', Wk w' wb E (telW s x t) ov' tv' := by
 refine (callsIn_wide (n := 9)).1 ?_
 have hwl := h.lt
 have k1 := below_alloc w (.cells #[.int .i64 x.k, .string x.tx, .string x.tg, .string x.an, .int .i64 x.st, .bool x.fl] 50)
 have h1 := h.on k1
 have c7 := h1.cell 7
 simp at c7
 have bx := box_new w #[.int .i64 x.k, .string x.tx, .string x.tg, .string x.an, .int .i64 x.st, .bool x.fl] 50
 have x0 : (yzae1 w x).cell? ⟨w.heap.size, 0, none⟩ = some (.int .i64 x.k) := bx 0
 have x1 : (yzae1 w x).cell? ⟨w.heap.size, 1, none⟩ = some (.string x.tx) := bx 1
 have x2 : (yzae1 w x).cell? ⟨w.heap.size, 2, none⟩ = some (.string x.tg) := bx 2
 have x3 : (yzae1 w x).cell? ⟨w.heap.size, 3, none⟩ = some (.string x.an) := bx 3
 have x4 : (yzae1 w x).cell? ⟨w.heap.size, 4, none⟩ = some (.int .i64 x.st) := bx 4
 have x5 : (yzae1 w x).cell? ⟨w.heap.size, 5, none⟩ = some (.bool x.fl) := bx 5
 have hsz : (yzae1 w x).heap.size = w.heap.size + 1 := by simp
 obtain ⟨g, cap, w1, hr, hgn, hov, f7, g7, kk, hk⟩ := told_push h1 hn x
 rw [hsz] at hr hgn
 have T0 : Tw (yzae1 w x) wb w.heap.size (yzae1 w x).drew := ⟨rfl, rfl⟩
 have T1 : Tw (yzae1 w x) wb w.heap.size (((yzae1 w x).alloc (.cells #[.int .i64 x.k, .string x.tx, .string x.tg, .string x.an, .int .i64 x.st, .bool x.fl] 50)).drew) := ⟨Below.heap_alloc _ _ _ (by rw [hsz]; omega), Below.heap_alloc _ _ _ (by rw [hsz]; omega)⟩
 have T2 : Tw (yzae1 w x) wb w.heap.size w1 := ⟨hgn wb (by omega) (fun e => by have := (hov _ e.symm).1; omega), hgn w.heap.size (by omega) (fun e => by
  obtain ⟨cur, a1⟩ := row_type h.to e.symm |>.2
  have := (Array.getElem?_eq_some_iff.1 a1).1
  omega)⟩
 have kk2 : Kee wb w (w1.setCell ⟨wb, 7, none⟩ (.slice (some ⟨g, 0, none⟩) (s.to.length + 1) cap)) := (Kee.of k1).trans kk
 obtain ⟨W3, hW3⟩ : ∃ W3, w1.setCell ⟨wb, 7, none⟩ (.slice (some ⟨g, 0, none⟩) (s.to.length + 1) cap) = W3 := ⟨_, rfl⟩
 rw [hW3] at hk kk2
 have d8 := hk.cell 8
 have e8 := hk.frozen 8
 simp at d8
 have hk2 := hk.setTa t
 have kk3 := kk2.trans (hk.kee 8 (.int .i64 (t : Nat)))
 obtain ⟨W4, hW4⟩ : ∃ W4, W3.setCell ⟨wb, 8, none⟩ (.int .i64 (t : Nat)) = W4 := ⟨_, rfl⟩
 rw [hW4] at hk2 kk3
 have SZ := fun m => (callsIn_wide (n := m)).2 (size_any hk2 hl)
 dsimp only at SZ
 have hti : (t : Int) <= 1073741824 := by omega
 refine callsIn_of_wp Tryz.func104 rfl trivial ?_ rfl
 simp only [Tryz.ntmps104, frm, Nat.reduceAdd, Nat.reduceSub]
 clear hgn hov kk k1 h1 bx hk kk2
 have HK2 : Hid _ := hk2
 have HK3 : Hid _ := kk3
 clear hk2 kk3
 gi_wp2
 refine region_pickS (Til 10 (Tw (yzae1 w x) wb w.heap.size)) (by kernel_rfl) ?_
 show AnyS _ _ _ _ _ _ 11 _ ⟨#[_,_,_,_,_,_,_,_,_,_,_,_,_,_,_,_,_,_,_,_,_,_,_,_,_,_,_,_,_,_,_,_,_,_,_,_,_,_,_], []⟩ (yzae1 w x).drew
 refine .tk 0 (.pointer (some ⟨wb, 0, none⟩)) wideF rfl (.inl ⟨rfl, fun w _ => by go_simp⟩) (fun _ => T0) ?_
 refine .tk 1 (.pointer (some ⟨wb, 0, none⟩)) wideF rfl (.inl ⟨rfl, fun w _ => by go_simp⟩) (fun _ => T0) ?_
 refine .tk 2 (.pointer (some ⟨wb, 0, none⟩)) wideF rfl (.inl ⟨rfl, fun w _ => by go_simp⟩) (fun _ => T0) ?_
 refine .tk 3 (.pointer (some ⟨wb, 7, none⟩)) wideF rfl (.inl ⟨rfl, fun w _ => by go_simp⟩) (fun _ => T0) ?_
 refine .tk 4 tv wideF rfl (til_tells (s := 10) [7, 10] (by kernel_rfl) rfl rfl (fun w hw => by have a1 := hw.cell c7; go_simp)) (fun _ => T0) ?_
 refine .tk 5 (.agg #[.int .i64 x.k, .string x.tx, .string x.tg, .string x.an, .int .i64 x.st, .bool x.fl]) wideF rfl (til_tells (s := 10) [6, 7, 10] (by kernel_rfl) rfl rfl (fun w hw => by have a0 := hw.box x0; have a1 := hw.box x1; have a2 := hw.box x2; have a3 := hw.box x3; have a4 := hw.box x4; have a5 := hw.box x5; go_simp)) (fun _ => T0) ?_
 show AnyS _ _ _ _ _ _ 5 _ ⟨#[_,_,_,_,_,_,_,_,_,_,_,_,_,_,_,_,_,_,_,_,_,_,_,_,_,_,_,_,_,_,_,_,_,_,_,_,_,_,_], []⟩ _
 refine AnyS.one (i := 6) (by kernel_rfl) rfl rfl (fun K hK => ?_)
 go_simp
 refine hK _ _ (fun _ => T1) ?_
 clear hK K
 show AnyS _ _ _ _ _ _ 4 _ ⟨#[_,_,_,_,_,_,_,_,_,_,_,_,_,_,_,_,_,_,_,_,_,_,_,_,_,_,_,_,_,_,_,_,_,_,_,_,_,_,_], []⟩ ((yzae1 w x).alloc (.cells #[.int .i64 x.k, .string x.tx, .string x.tg, .string x.an, .int .i64 x.st, .bool x.fl] 50)).drew
 refine AnyS.one (i := 7) (by kernel_rfl) rfl rfl (fun K hK => ?_)
 refine opIn_append_run _ _ 27 rfl rfl rfl hr ?_
 refine hK _ _ (fun _ => T2) ?_
 clear hK K
 show AnyS _ _ _ _ _ _ 3 _ ⟨#[_,_,_,_,_,_,_,_,_,_,_,_,_,_,_,_,_,_,_,_,_,_,_,_,_,_,_,_,_,_,_,_,_,_,_,_,_,_,_], []⟩ w1
 refine .tk 8 (.pointer (some ⟨wb, 0, none⟩)) wideF rfl (.inl ⟨rfl, fun w _ => by go_simp⟩) (fun _ => T2) ?_
 refine .tk 9 (.pointer (some ⟨wb, 7, none⟩)) wideF rfl (.inl ⟨rfl, fun w _ => by go_simp⟩) (fun _ => T2) ?_
 refine AnyS.one (i := 10) (by kernel_rfl) rfl rfl (fun K hK => ?_)
 go_simp
 refine hK _ _ (fun h => by cases h) ?_
 clear hK K
 show AnyS _ _ _ _ _ _ 0 _ ⟨#[_,_,_,_,_,_,_,_,_,_,_,_,_,_,_,_,_,_,_,_,_,_,_,_,_,_,_,_,_,_,_,_,_,_,_,_,_,_,_], []⟩ W3
 refine AnyS.done (by kernel_rfl) ?_
 rename_i Kb hKb
 refine hKb _ _ ?_
 clear hKb T0 T1 T2 hr f7 g7
 cases hop : s.op with
 | nil =>
  have he : telW s x t = { p := s.p, op := [], to := s.to ++ [x], ta := t } := by unfold telW; rw [hop]
  rw [hop] at SZ
  have HE : Hid _ := he
  clear he h hl ha
  gi_wp2
  first | refine tr2 ?_ | refine tr1 ?_
  gi_at_call 41
  refine (SZ _).mono ?_
  rintro en V4 ⟨rfl, rfl⟩
  gi_wp2
  go_end0
  refine ⟨⟨_, rfl⟩, HK3.out, ov, (.slice (some ⟨g, 0, none⟩) (s.to.length + 1) cap), ?_⟩
  rw [HE.out, <- hop]
  exact HK2.out
 | cons l r =>
  obtain ⟨g2, cap2, rfl, b1, b2, b3, b4, b5, b6, b7⟩ := h.top hop
  have hla := ha l (by rw [hop]; exact List.mem_cons_self)
  have hrl : r.length <= 1073741824 := by rw [hop] at hl; simp at hl; omega
  have TP := fun m => (callsIn_wide (n := m)).2 (top_any (l := l) HK2.out hrl)
  have HFI : Hid (∀ W5, Below W4.heap.size W4 W5 -> W5.cell? ⟨g2, r.length * 7 + 6, none⟩ = some (.int .i64 (l.ta : Nat)) /\ W5.frozen? ⟨g2, r.length * 7 + 6, none⟩ = false /\ ∀ m : Nat, m = max l.ta t -> Kee wb w (W5.setCell ⟨g2, r.length * 7 + 6, none⟩ (.int .i64 (m : Nat))) /\ Wk (W5.setCell ⟨g2, r.length * 7 + 6, none⟩ (.int .i64 (m : Nat))) wb E (telW s x t) (.slice (some ⟨g2, 0, none⟩) (r.length + 1) cap2) (.slice (some ⟨g, 0, none⟩) (s.to.length + 1) cap)) := fun W5 hB => by
   have k5 := HK2.out.on hB
   obtain ⟨g3, cap3, e3, -, -, -, -, c5, c6, -⟩ := k5.top (l := l) (r := r) hop
   cases e3
   have c56 := c5 6
   simp [Lv.c] at c56
   refine ⟨c56, c6 _, fun m hm => ?_⟩
   obtain ⟨q1, q2⟩ := k5.setL (l := l) (l' := { l with ta := m }) (r := r) (j := 6) (x := .int .i64 (m : Nat)) hop (by decide) rfl
   refine ⟨(HK3.out.trans (Kee.of hB)).trans q2, ?_⟩
   have he : telW s x t = { p := s.p, op := { l with ta := m } :: r, to := s.to ++ [x], ta := t } := by unfold telW; rw [hop, hm]
   rw [he]
   exact q1
  have hlen : s.op.length = r.length + 1 := by rw [hop]; rfl
  rw [hlen] at SZ
  have e1 : (0 : Int) < ((r.length + 1 : Nat) : Int) := by omega
  have hli : (l.ta : Int) <= 1073741824 := by omega
  clear h hl ha b1 b2 b3 b4 b5 b6 b7
  by_cases hmx : l.ta < t
  ·have e2 : (l.ta : Int) < (t : Int) := by omega
   have e3 : max l.ta t = t := by omega
   rw [e3] at HFI
   gi_wp2
   first | refine tr2 ?_ | refine tr1 ?_
   gi_at_call 41
   refine (SZ _).mono ?_
   rintro en V4 ⟨rfl, rfl⟩
   gi_wp2
   first | refine tr2 ?_ | refine tr1 ?_
   gi_at_call 73
   refine (TP _).mono ?_
   rintro en W5 ⟨rfl, hB5⟩
   obtain ⟨z1, z2, z3⟩ := HFI.out W5 hB5
   obtain ⟨z4, z5⟩ := z3 t rfl
   have HZ : Hid _ := z5
   have HZ4 : Hid _ := z4
   clear z3 z4 z5 HFI
   gi_wp2
   go_end0
   exact ⟨⟨_, rfl⟩, HZ4.out, _, _, HZ.out⟩
  ·have e2 : ¬ (l.ta : Int) < (t : Int) := by omega
   have e3 : max l.ta t = l.ta := by omega
   rw [e3] at HFI
   gi_wp2
   first | refine tr2 ?_ | refine tr1 ?_
   gi_at_call 41
   refine (SZ _).mono ?_
   rintro en V4 ⟨rfl, rfl⟩
   gi_wp2
   first | refine tr2 ?_ | refine tr1 ?_
   gi_at_call 73
   refine (TP _).mono ?_
   rintro en W5 ⟨rfl, hB5⟩
   obtain ⟨z1, z2, z3⟩ := HFI.out W5 hB5
   obtain ⟨z4, z5⟩ := z3 l.ta rfl
   have HZ : Hid _ := z5
   have HZ4 : Hid _ := z4
   clear z3 z4 z5 HFI
   gi_wp2
   go_end0
   exact ⟨⟨_, rfl⟩, HZ4.out, _, _, HZ.out⟩
structure LowT (O : Orc) : Prop where
 text : ∀ (q : Option Addr) (t : List Int) (c : Nat) (W : World), t.length <= 1000000 -> Is W q t -> Calls Tryz.prog 154 #[.slice q t.length c] W fun en w' => ∃ v, en = .returned v /\ Below W.heap.size W w' /\ ∀ W', Below w'.heap.size w' W' -> (convert 82 9 v).run Tryz.prog W' = .ok (.string (O.text t)) W'
structure Sml (s : St) : Prop where
 to : s.to.length <= 1000000000
 op : s.op.length <= 1000000000
 ta : s.ta <= 1000000000
 la : ∀ l ∈ s.op, l.ta <= 1000000000
theorem tell_s {w : World} {wb : Nat} {E : Env} {s : St} {ov tv : Value} (h : Wk w wb E s ov tv) (hs : Sml s) (x : Ev) (t : Nat) (ht : t <= 1073741824) :
  Calls Tryz.prog 104 #[.pointer (some ⟨wb, 0, none⟩), x.v, .int .i64 (t : Nat)] w fun en w' => (∃ v, en = .returned v) /\ Kee wb w w' /\ ∃ ov' tv', Wk w' wb E (telW s x t) ov' tv' :=
 tell_any h (by have := hs.to; omega) (by have := hs.op; omega) (fun l hl => by have := hs.la l hl; omega) x t ht
def Bh (w : World) (b : Nat) (x : Hs) : Prop := w.heap[b]? = some (.cells #[.string x.an, .string x.tg, .int .i64 (x.bi : Nat), .int .i64 (x.bk : Nat)] 125)
theorem Bh.cell {w : World} {b : Nat} {x : Hs} (h : Bh w b x) (o : Nat) : w.cell? ⟨b, o, none⟩ = (#[.string x.an, .string x.tg, .int .i64 (x.bi : Nat), .int .i64 (x.bk : Nat)] : Array Value)[o]? := by
 show (match w.heap[b]? with | some (.cells c _ _) => c[o]? | _ => none) = _
 rw [show w.heap[b]? = _ from h]
theorem Bh.lt {w : World} {b : Nat} {x : Hs} (h : Bh w b x) : b < w.heap.size := (Array.getElem?_eq_some_iff.1 (show w.heap[b]? = _ from h)).1
theorem Bh.on {w w' : World} {b : Nat} {x : Hs} (h : Bh w b x) (hb : Below w.heap.size w w') : Bh w' b x := (hb.block b h.lt).trans h
theorem Bh.kee {w w' : World} {wb b : Nat} {x : Hs} (h : Bh w b x) (hk : Kee wb w w') : Bh w' b x := hk.keep b _ h (.inr (by rintro (e | e | e) <;> cases e))
theorem Bh.new (w : World) (x : Hs) : Bh (w.alloc (.cells #[.string x.an, .string x.tg, .int .i64 (x.bi : Nat), .int .i64 (x.bk : Nat)] 125)) w.heap.size x := World.alloc_heap_new w _
abbrev yzae2 (w : World) (x : Hs) : World := (w.alloc (.cells #[.string x.an, .string x.tg, .int .i64 (x.bi : Nat), .int .i64 (x.bk : Nat)] 125))
theorem scalar_any {w : World} {wb : Nat} {E : Env} {s : St} {ov tv : Value} {O : Orc} (LT : LowT O) (h : Wk w wb E s ov tv) (hs : Sml s) (x : Hs) (q : Option Addr) (t : List Int) (c : Nat) (st : Int) (ht : t.length <= 1000000) (hI : Is w q t) :
  Calls Tryz.prog 110 #[(.pointer (some ⟨wb, 0, none⟩)), x.v, .slice q t.length c, .int .i64 st] w fun en w' => (∃ v, en = .returned v) /\ Kee wb w w' /\ ∃ ov' tv', Wk w' wb E (scaW O s x t st) ov' tv' := by
 refine (callsIn_wide (n := 9)).1 ?_
 have k1 := below_alloc w (.cells #[.string x.an, .string x.tg, .int .i64 (x.bi : Nat), .int .i64 (x.bk : Nat)] 125)
 have S0 : Bh (yzae2 w x).drew w.heap.size x := Bh.new w x
 have TX := fun m => (callsIn_wide (n := m)).2 (LT.text q t c (yzae2 w x).drew ht (hI.on k1.drew))
 refine callsIn_of_wp Tryz.func110 rfl trivial ?_ rfl
 simp only [Tryz.ntmps110, frm, Nat.reduceAdd, Nat.reduceSub]
 gi_wp2
 refine region_pickN (fun w' => Bh w' w.heap.size x) (by kernel_rfl) ?_
 show Any _ _ _ _ _ _ 11 _ ⟨#[_,_,_,_,_,_,_,_,_,_,_,_,_,_,_,_,_,_,_], []⟩ (yzae2 w x).drew
 refine .tp 0 (.pointer (some ⟨wb, 0, none⟩)) S0 ?_
 refine .tp 1 (.slice q t.length c) S0 ?_
 refine .tp 4 (.pointer (some ⟨w.heap.size, 1, none⟩)) S0 ?_
 refine .tl 5 (.string x.tg) rfl (fun w hw => by have a1 := hw.cell 1; simp at a1; go_simp) S0 ?_
 refine .tp 6 (.pointer (some ⟨w.heap.size, 0, none⟩)) S0 ?_
 refine .tl 7 (.string x.an) rfl (fun w hw => by have a1 := hw.cell 0; simp at a1; go_simp) S0 ?_
 show Any _ _ _ _ _ _ 5 _ ⟨#[_,_,_,_,_,_,_,_,_,_,_,_,_,_,_,_,_,_,_], []⟩ _
 refine .tp 8 (.int .i64 st) S0 ?_
 refine .on 2 rfl rfl fun K hK => ?_
 go_simp
 first | refine tr2 ?_ | refine tr1 ?_
 refine (TX _).mono ?_
 clear TX
 rintro en V1 ⟨v, rfl, hB1, hcv⟩
 have S1 : Bh V1 w.heap.size x := S0.on hB1
 have kB := k1.drew.trans (hB1.mono (by show w.heap.size <= (yzae2 w x).heap.size; simp))
 have hcv1 := hcv V1 (Below.refl _ _)
 refine hK _ _ S1 ?_
 clear hK K hcv
 show Any _ _ _ _ _ _ 3 _ ⟨#[_,_,_,_,_,_,_,_,_,_,_,_,_,_,_,_,_,_,_], []⟩ V1
 refine .on 3 rfl rfl fun K hK => ?_
 go_simp
 refine hK _ _ S1 ?_
 clear hK K
 show Any _ _ _ _ _ _ 2 _ ⟨#[_,_,_,_,_,_,_,_,_,_,_,_,_,_,_,_,_,_,_], []⟩ V1
 refine .on 9 rfl rfl fun K hK => ?_
 go_simp
 refine hK _ _ S1 ?_
 clear hK K
 show Any _ _ _ _ _ _ 1 _ ⟨#[_,_,_,_,_,_,_,_,_,_,_,_,_,_,_,_,_,_,_], []⟩ V1
 refine .on 10 rfl rfl fun K hK => ?_
 have TL := fun m => (callsIn_wide (n := m)).2 (tell_s (h.on kB) hs ⟨7, O.text t, x.tg, x.an, st, false⟩ 0 (by decide))
 go_simp
 first | refine tr2 ?_ | refine tr1 ?_
 refine (TL _).mono ?_
 clear TL
 rintro en V2 ⟨⟨v2, rfl⟩, hk2, ov', tv', hw2⟩
 refine hK _ _ (S1.kee hk2) ?_
 clear hK K
 show Any _ _ _ _ _ _ 0 _ ⟨#[_,_,_,_,_,_,_,_,_,_,_,_,_,_,_,_,_,_,_], []⟩ V2
 refine Any.done (by kernel_rfl) ?_
 simp only [nrm]
 go_end0
 exact ⟨⟨_, rfl⟩, (Kee.of kB).trans hk2, ov', tv', hw2⟩
theorem empty_any {w : World} {wb : Nat} {E : Env} {s : St} {ov tv : Value} {O : Orc} (LT : LowT O) (h : Wk w wb E s ov tv) (hs : Sml s) (x : Hs) :
  Calls Tryz.prog 103 #[(.pointer (some ⟨wb, 0, none⟩)), x.v] w fun en w' => (∃ v, en = .returned v) /\ Kee wb w w' /\ ∃ ov' tv', Wk w' wb E (empW O s x) ov' tv' := by
 have k1 := below_alloc w (.cells #[.string x.an, .string x.tg, .int .i64 (x.bi : Nat), .int .i64 (x.bk : Nat)] 125)
 have bh := Bh.new w x
 have x0 := bh.cell 0
 have x1 := bh.cell 1
 have x2 := bh.cell 2
 have x3 := bh.cell 3
 simp at x0 x1 x2 x3
 have SC := scalar_any LT (h.on k1) hs x none [] 0 1 (by simp) (.inl rfl)
 simp only [List.length_nil] at SC
 clear h bh
 go_enter Tryz.func103, Tryz.ntmps103
 go_wp2_with (first | (go_at_call 110; refine SC.mono ?_; clear SC; rintro en W1 ⟨⟨v, rfl⟩, hk, hw⟩))
 go_end0
 exact ⟨⟨_, rfl⟩, (Kee.of k1).trans hk, hw⟩
theorem Sml.at {s : St} (h : Sml s) (p : Pl) : Sml { s with p := p } := ⟨h.to, h.op, h.ta, h.la⟩
abbrev yzae3 (w : World) (x : Hs) : World := (w.alloc (.cells #[.string x.an, .string x.tg, .int .i64 (x.bi : Nat), .int .i64 (x.bk : Nat)] 125))
theorem nothing_any {w : World} {wb : Nat} {E : Env} {s : St} {ov tv : Value} {O : Orc} (LT : LowT O) (h : Wk w wb E s ov tv) (hs : Sml s) (x : Hs) :
  Calls Tryz.prog 67 #[(.pointer (some ⟨wb, 0, none⟩)), x.v] w fun en w' => Post wb E w (notW O s x) en w' := by
 have k1 := below_alloc w (.cells #[.string x.an, .string x.tg, .int .i64 (x.bi : Nat), .int .i64 (x.bk : Nat)] 125)
 have bh := Bh.new w x
 have x0 := bh.cell 0
 have x1 := bh.cell 1
 have x2 := bh.cell 2
 have x3 := bh.cell 3
 simp at x0 x1 x2 x3
 have SO := some_any x (yzae3 w x)
 unfold notW
 cases hso : x.so with
 | false =>
  rw [hso] at SO
  clear h bh
  go_enter Tryz.func67, Tryz.ntmps67
  go_wp2_with (first | (go_at_call 102; refine SO.mono ?_; clear SO; rintro en W1 ⟨rfl, hB⟩))
  go_ret
  exact ⟨Kee.of (k1.trans (hB.mono (by simp))), rfl⟩
 | true =>
  rw [hso] at SO
  have FA : Hid (∀ W1, Below (yzae3 w x).heap.size (yzae3 w x) W1 -> Below w.heap.size w W1 /\ Bh W1 w.heap.size x /\ Wk W1 wb E s ov tv) := fun W1 hB => by
   have a1 := k1.trans (hB.mono (by simp))
   exact ⟨a1, bh.on hB, h.on a1⟩
  have FB : Hid (∀ W1, Wk W1 wb E s ov tv -> Bh W1 w.heap.size x -> Calls Tryz.prog 103 #[(.pointer (some ⟨wb, 0, none⟩)), x.v] ((W1.setCell ⟨wb, 4, none⟩ (.int .i64 (x.bi : Nat))).setCell ⟨wb, 5, none⟩ (.int .i64 (x.bk : Nat))) fun en w' => (∃ v, en = .returned v) /\ Kee wb ((W1.setCell ⟨wb, 4, none⟩ (.int .i64 (x.bi : Nat))).setCell ⟨wb, 5, none⟩ (.int .i64 (x.bk : Nat))) w' /\ ∃ ov' tv', Wk w' wb E (empW O { s with p := ⟨x.bi, x.bk⟩ } x) ov' tv') := fun W1 hW _ => empty_any LT (hW.setP ⟨x.bi, x.bk⟩) (hs.at _) x
  clear h
  go_enter Tryz.func67, Tryz.ntmps67
  go_wp2_with (first | (go_at_call 102; refine SO.mono ?_; clear SO; rintro en W1 ⟨rfl, hB⟩; obtain ⟨a1, a2, a3⟩ := FA.out W1 hB; have y0 := a2.cell 0; have y1 := a2.cell 1; have y2 := a2.cell 2; have y3 := a2.cell 3; have d4 := a3.cell 4; have d5 := a3.cell 5; have f4 := a3.frozen 4; have f5 := a3.frozen 5; simp at y0 y1 y2 y3 d4 d5; have k4 := a2.kee (a3.keeP ⟨x.bi, x.bk⟩); have z0 := k4.cell 0; have z1 := k4.cell 1; have z2 := k4.cell 2; have z3 := k4.cell 3; simp at z0 z1 z2 z3; have EM := FB.out W1 a3 a2; have HA : Hid _ := a3; clear a2 a3 k4) | (go_at_call 103; refine EM.mono ?_; clear EM; rintro en W2 ⟨⟨v, rfl⟩, hk, hw⟩))
  go_ret
  exact ⟨((Kee.of a1).trans (HA.out.keeP ⟨x.bi, x.bk⟩)).trans hk, rfl, hw⟩
end Go.Proofs.YtipbhdhiklmieaaGreatDoor
