/- The walk: begin, whole. -/
import Derived.Test.YtipbhdhiklmieaaGreatDoorZAQ
import Derived.Test.YtipbhdhiklmieaaGreatDoorZAR
import Derived.Deep.MidRow
import Derived.Laws.CopyRow
set_option linter.all false
set_option maxRecDepth 100000
set_option maxHeartbeats 8000000
namespace Go.Proofs.YtipbhdhiklmieaaGreatDoor
open Go.RowKit Go.Shelf
attribute [local go_sem] Oper.semAt_some
section
variable {w : World} {wb : Nat} {E : Env} {s : St} {ov tv : Value} {O : Orc} {Tb : World -> Prop} {p : Pl}
theorem begs (LW : Low O Tb) (hf : Fine E) (h1 : 0 < wb) : Begs O Tb wb E := fun V s ov tv ht h hs hp =>
 begin_of LW h hs hf hp
  (fun V' p x c hk hw hpo h0 hc => quoted_any LW hw (hs.at p) hf hpo h0 (LW.keep ht hk (Nat.le_of_lt h.lt) h1) h1 x c hc)
  (fun V' p x wf hk hw hpo => plainText_any LW hw (hs.at p) hf hpo x wf (rst_all hf))
theorem remW_small (hf : Fine E) : remW E.L 0 <= 1000000 := by
 have hl := hf.l2
 have ht : ∀ x ∈ E.L, x.t.length <= 1300 := fun x hx => by
  unfold Env.L at hx
  obtain ⟨y, hy, rfl⟩ := List.mem_map.1 hx
  obtain ⟨j, hj⟩ := List.getElem?_of_mem hy
  exact hf.t2 j y hj
 have hsum : ∀ l : List Lp, (∀ x ∈ l, x.t.length <= 1300) -> (l.map fun x => x.t.length + 1).sum <= l.length * 1301 := by
  intro l
  induction l with
  | nil => intro _; simp
  | cons x l ih =>
   intro h
   have h1 := h x List.mem_cons_self
   have h2 := ih (fun y hy => h y (List.mem_cons_of_mem _ hy))
   simp only [List.map_cons, List.sum_cons, List.length_cons]
   omega
 have := hsum E.L ht
 have h3 := E.len
 unfold remW
 rw [List.drop_zero]
 omega
theorem node_whole (LW : Low O Tb) (hf : Fine E) (h : Wk w wb E ⟨p, [], [], 0⟩ ov tv) (hp : Okp E p) (ht : Tb w) (h1 : 0 < wb) :
  Calls Tryz.prog 25 #[(.pointer (some ⟨wb, 0, none⟩))] w fun en w' => ∃ r, (∃ f, nodW O E.L E.n E.d E.b f p = some r) /\ Post wb E w r en w' :=
 node_any LW (begs LW hf h1) h hf hp ht h1 (remW_small hf)
def plcP (L : List Lp) (line col : Int) : Option Pl := match L[line.toNat]? with
 | none => none
 | some x => if line < 0 \/ col < 0 then none else some ⟨line.toNat, min (col - max x.n 0).toNat x.t.length⟩
def plcV : Option Pl -> Value
 | none => .tuple #[.agg #[.int .i64 0, .int .i64 0], .bool false]
 | some p => .tuple #[p.v, .bool true]
theorem results_po {fn : Func} {r s : Tmp} (h : fn.results = #[.cell r 60, .tmp s]) {tmps : Array Value} {W : World} {b2 : Nat} {i k : Int} {v : Value} (h1 : tmps.getD r undef = .pointer (some ⟨b2, 0, none⟩)) (h2 : tmps.getD s undef = v)
  (x1 : Bx W b2 i k) : (results fn tmps).run Tryz.prog W = .ok (.tuple #[.agg #[.int .i64 i, .int .i64 k], v]) W := by
 have h1' : tmps[r]?.getD undef = .pointer (some ⟨b2, 0, none⟩) := by simpa using h1
 have h2' : tmps[s]?.getD undef = v := by simpa using h2
 have c0 := x1.cell 0
 have c1 := x1.cell 1
 simp at c0 c1
 simp [results, h, h1', h2', asAddr, go_sem, c0, c1]
theorem wrapB {x : Int} (h1 : -9223372036854775808 <= x) (h2 : x <= 9223372036854775807) : IntKind.i64.wrap x = x := by
 by_cases h0 : 0 <= x
 ·simp [IntKind.wrap, IntKind.bits]
  rw [if_neg (by rintro ⟨-, e⟩; omega)]
  omega
 ·simp [IntKind.wrap, IntKind.bits]
  rw [if_pos ⟨rfl, by omega⟩]
  omega
theorem po_eq {l A l' A' : Int} (h1 : l = l') (h2 : A = A') : Ending.returned (.tuple #[.agg #[.int .i64 l, .int .i64 A], .bool true]) = Ending.returned (.tuple #[.agg #[.int .i64 l', .int .i64 A'], .bool true]) := by rw [h1, h2]
theorem placeOf_any {q : Option Addr} {M : List Ln} {c : Nat} (h : Ls w q M) (hl : M.length <= 600) (htx : ∀ (j : Nat) (x : Ln), M[j]? = some x -> x.t.length <= 1300) (line col : Int) (hc2 : ∀ (j : Nat) (x : Ln), M[j]? = some x -> x.n <= 1000000) (hcol : col <= 9223372036854775807) :
  Calls Tryz.prog 24 #[.slice q M.length c, .int .i64 line, .int .i64 col] w fun en w' => en = .returned (plcV (plcP (M.map Ln.lp) line col)) /\ Below w.heap.size w w' := by
 have hlI : (M.length : Int) <= 600 := by omega
 have kA := below_alloc w (.cells #[.int .i64 0, .int .i64 0] 60)
 by_cases h0 : line < 0
 ·have hv : plcP (M.map Ln.lp) line col = none := by
   unfold plcP
   split
   ·rfl
   ·rw [if_pos (.inl h0)]
  rw [hv]
  simp only [plcV]
  clear hv hc2 h
  go_enter Tryz.func24, Tryz.ntmps24
  go_wp2
  refine bodyPost_ret (results_po rfl rfl rfl (show Bx _ w.heap.size 0 0 from World.alloc_heap_new w _)) rfl ⟨rfl, kA⟩
 ·by_cases h1 : (M.length : Int) <= line
  ·have hv : plcP (M.map Ln.lp) line col = none := by
    unfold plcP
    rw [List.getElem?_eq_none (by rw [List.length_map]; omega)]
   rw [hv]
   simp only [plcV]
   clear hv hc2 h
   go_enter Tryz.func24, Tryz.ntmps24
   go_wp2
   refine bodyPost_ret (results_po rfl rfl rfl (show Bx _ w.heap.size 0 0 from World.alloc_heap_new w _)) rfl ⟨rfl, kA⟩
  ·obtain ⟨x, hx⟩ : ∃ x, M[line.toNat]? = some x := ⟨_, List.getElem?_eq_getElem (by omega)⟩
   by_cases h2 : col < 0
   ·have hv : plcP (M.map Ln.lp) line col = none := by
     unfold plcP
     rw [List.getElem?_map, hx]
     show (if line < 0 \/ col < 0 then none else some _) = none
     rw [if_pos (.inr h2)]
    rw [hv]
    simp only [plcV]
    clear hv hc2 h
    go_enter Tryz.func24, Tryz.ntmps24
    go_wp2
    refine bodyPost_ret (results_po rfl rfl rfl (show Bx _ w.heap.size 0 0 from World.alloc_heap_new w _)) rfl ⟨rfl, kA⟩
   ·have hv : plcP (M.map Ln.lp) line col = some ⟨line.toNat, min (col - max x.n 0).toNat x.t.length⟩ := by
     unfold plcP
     rw [List.getElem?_map, hx]
     show (if line < 0 \/ col < 0 then none else some _) = some _
     rw [if_neg (by omega)]
     rfl
    rw [hv]
    simp only [plcV, Pl.v]
    obtain ⟨b, o, rfl, hcl⟩ := h.at (by omega)
    obtain ⟨d0, d1⟩ := hcl _ x hx
    have hli : ((line.toNat : Nat) : Int) = line := by omega
    have BL := blanks_any x.n x.q x.t.length x.c
    have htl := htx _ x hx
    have hxn := hc2 _ x hx
    have e0 := (kA.cell (p := ⟨b, o + line.toNat * 2, none⟩) (World.block_lt_of_cell? w _ d0)).trans d0
    have e1 := (kA.cell (p := ⟨b, o + line.toNat * 2 + 1, none⟩) (World.block_lt_of_cell? w _ d1)).trans d1
    obtain ⟨bl, hbl⟩ : ∃ bl : Int, max x.n 0 = bl := ⟨_, rfl⟩
    have hb0 : 0 <= bl := by omega
    have hb1 : bl <= 1000000 := by omega
    rw [hbl] at BL |-
    have hln0 : ((x.t.length : Nat) : Int) <= 1300 := by omega
    have h1' : line < (M.length : Int) := by omega
    have HB : Hid (∀ V1, Below (w.alloc (.cells #[.int .i64 0, .int .i64 0] 60)).heap.size (w.alloc (.cells #[.int .i64 0, .int .i64 0] 60)) V1 -> V1.cell? ⟨b, o + line.toNat * 2, none⟩ = some (.int .i64 x.n) /\ V1.cell? ⟨b, o + line.toNat * 2 + 1, none⟩ = some (.slice x.q x.t.length x.c) /\ Bx V1 w.heap.size 0 0 /\ Below w.heap.size w V1) := fun V1 hb =>
     ⟨(hb.cell (p := ⟨b, o + line.toNat * 2, none⟩) (World.block_lt_of_cell? _ _ e0)).trans e0, (hb.cell (p := ⟨b, o + line.toNat * 2 + 1, none⟩) (World.block_lt_of_cell? _ _ e1)).trans e1, (show Bx (w.alloc (.cells #[.int .i64 0, .int .i64 0] 60)) w.heap.size 0 0 from World.alloc_heap_new w _).on hb, kA.trans (hb.mono (by simp))⟩
    clear hv h hcl d0 d1 htx hc2 hx hbl hxn htl
    have hwr : IntKind.i64.wrap (col - bl) = col - bl := wrapB (by omega) (by omega)
    obtain ⟨mm, hmm⟩ : ∃ mm, min (col - bl).toNat x.t.length = mm := ⟨_, rfl⟩
    rw [hmm]
    go_enter Tryz.func24, Tryz.ntmps24
    go_wp2_with (first | (go_at_call 32; refine (BL _).mono ?_; clear BL; rintro en V1 ⟨rfl, hB1⟩; obtain ⟨f0, f1, bx, bw⟩ := HB.out V1 hB1; have g0 := bx.cell 0; have g1 := bx.cell 1; have g2 := bx.frozen 0; have g3 := bx.frozen 1; simp at g0 g1; have HBX : Hid (Bx V1 w.heap.size 0 0) := bx; clear bx))
    all_goals
     refine bodyPost_ret (results_po rfl rfl rfl (Bx.put HBX.out _ _)) rfl ⟨po_eq ?_ ?_, (bw.setCell (p := ⟨w.heap.size, 0, none⟩) (Nat.le_refl _) _).setCell (p := ⟨w.heap.size, 1, none⟩) (Nat.le_refl _) _⟩
     ·omega
     ·omega
end
theorem columnOf_any {w : World} {q : Option Addr} {M : List Ln} {c : Nat} {p : Pl} {x : Ln} (h : Ls w q M) (hl : M.length <= 600) (hx : M[p.i]? = some x) (hk : p.k <= 1300) (hn : x.n <= 1000000) :
  Calls Tryz.prog 27 #[.slice q M.length c, p.v] w fun en w' => en = .returned (.int .i64 (max x.n 0 + (p.k : Nat))) /\ Below w.heap.size w w' := by
 have hpi := (List.getElem?_eq_some_iff.1 hx).1
 obtain ⟨b, o, rfl, hcl⟩ := h.at (by omega)
 obtain ⟨d0, d1⟩ := hcl _ x hx
 have kA := below_alloc w (.cells #[.int .i64 (p.i : Nat), .int .i64 (p.k : Nat)] 60)
 have e0 := (kA.cell (p := ⟨b, o + p.i * 2, none⟩) (World.block_lt_of_cell? w _ d0)).trans d0
 have e1 := (kA.cell (p := ⟨b, o + p.i * 2 + 1, none⟩) (World.block_lt_of_cell? w _ d1)).trans d1
 have bx : Bx (w.alloc (.cells #[.int .i64 (p.i : Nat), .int .i64 (p.k : Nat)] 60)) w.heap.size (p.i : Nat) (p.k : Nat) := World.alloc_heap_new w _
 have g0 : (w.alloc (.cells #[.int .i64 (p.i : Nat), .int .i64 (p.k : Nat)] 60)).cell? ⟨w.heap.size, 0, none⟩ = some (.int .i64 (p.i : Nat)) := bx.cell 0
 have g1 : (w.alloc (.cells #[.int .i64 (p.i : Nat), .int .i64 (p.k : Nat)] 60)).cell? ⟨w.heap.size, 1, none⟩ = some (.int .i64 (p.k : Nat)) := bx.cell 1
 have BL := fun m => (callsIn_wide (n := m)).2 (blanks_any x.n x.q x.t.length x.c (w.alloc (.cells #[.int .i64 (p.i : Nat), .int .i64 (p.k : Nat)] 60)).drew)
 obtain ⟨bl, hbl⟩ : ∃ bl : Int, max x.n 0 = bl := ⟨_, rfl⟩
 have hb0 : 0 <= bl := by omega
 have hb1 : bl <= 1000000 := by omega
 rw [hbl] at BL |-
 have HWR : Hid (IntKind.i64.wrap (bl + (p.k : Nat)) = bl + (p.k : Nat)) := wrapB (by omega) (by omega)
 have hpI : (p.i : Int) < (M.length : Int) := by omega
 have hlI : (M.length : Int) <= 600 := by omega
 refine (callsIn_wide (n := 9)).1 ?_
 refine callsIn_of_wp Tryz.func27 rfl trivial ?_ rfl
 simp only [Tryz.ntmps27, frm, Nat.reduceAdd, Nat.reduceSub]
 clear d0 d1 bx hcl h hx hbl
 have d0 := e0
 have d1 := e1
 clear e0 e1
 gi_wp2
 generalize w.alloc (.cells #[.int .i64 (p.i : Nat), .int .i64 (p.k : Nat)] 60) = W1 at BL d0 d1 g0 g1 kA |-
 refine region_pickN (Sq W1) (by kernel_rfl) ?_
 show Any _ _ _ _ _ _ 10 _ ⟨#[_,_,_,_,_,_,_,_,_,_,_,_,_,_], []⟩ W1.drew
 refine .tp 0 (.slice (some ⟨b, o, none⟩) M.length c) (Sq.drew W1) ?_
 refine .tp 1 (.pointer (some ⟨w.heap.size, 0, none⟩)) (Sq.drew W1) ?_
 refine .tl 2 (.int .i64 (p.i : Nat)) rfl (fun w hw => by have a1 := hw.cell g0; go_simp) (Sq.drew W1) ?_
 refine .tp 3 (.pointer (some ⟨b, o + p.i * 2, none⟩)) (Sq.drew W1) ?_
 refine .tl 4 (.agg #[.int .i64 x.n, .slice x.q x.t.length x.c]) rfl (fun w hw => by have a1 := hw.cell d0; have a2 := hw.cell d1; go_simp) (Sq.drew W1) ?_
 refine .tp 6 (.pointer (some ⟨w.heap.size, 1, none⟩)) (Sq.drew W1) ?_
 show Any _ _ _ _ _ _ 4 _ ⟨#[_,_,_,_,_,_,_,_,_,_,_,_,_,_], []⟩ _
 refine .tl 7 (.int .i64 (p.k : Nat)) rfl (fun w hw => by have a1 := hw.cell g1; go_simp) (Sq.drew W1) ?_
 refine .on 5 rfl rfl fun K hK => ?_
 go_simp
 first | refine tr2 ?_ | refine tr1 ?_
 refine (BL _).mono ?_
 clear BL
 rintro en V1 ⟨rfl, hB1⟩
 have B1 := ((Below.refl _ W1).drew).trans (hB1.mono (Nat.le_refl _))
 refine hK _ _ (Sq.of B1) ?_
 clear hK K
 show Any _ _ _ _ _ _ 2 _ ⟨#[_,_,_,_,_,_,_,_,_,_,_,_,_,_], []⟩ V1
 refine .tl 8 (.int .i64 (bl + (p.k : Nat))) rfl (fun w _ => by have hwr := HWR.out; go_simp) (Sq.of B1) ?_
 refine .tp 9 (.int .i64 (bl + (p.k : Nat))) (Sq.of B1) ?_
 refine Any.done (by kernel_rfl) ?_
 rename_i Kb hKb
 refine hKb _ _ ?_
 clear hKb g0 g1 d0 d1
 gi_wp2
 go_ret
 exact ⟨rfl, kA.trans (B1.mono kA.size)⟩
theorem ev44_any (x : Ev) (w : World) : Calls Tryz.prog 44 #[x.v] w fun en w' => en = .returned (.bool (decide (x.k = 0))) /\ Below w.heap.size w w' := by
 obtain ⟨xk, xt, xg, xa, xs, xf⟩ := x
 have k1 := below_alloc w (.cells #[.int .i64 xk, .string xt, .string xg, .string xa, .int .i64 xs, .bool xf] 50)
 have x0 : (w.alloc (.cells #[.int .i64 xk, .string xt, .string xg, .string xa, .int .i64 xs, .bool xf] 50)).cell? ⟨w.heap.size, 0, none⟩ = some (.int .i64 xk) := box_new w #[.int .i64 xk, .string xt, .string xg, .string xa, .int .i64 xs, .bool xf] 50 0
 simp only [Ev.v]
 by_cases h : xk = 0
 ·subst h
  rw [decide_eq_true rfl]
  go_enter Tryz.func44, Tryz.ntmps44
  go_wp2
  go_ret
  exact ⟨rfl, k1⟩
 ·rw [decide_eq_false h]
  have e : (xk == 0) = false := by rw [beq_eq_false_iff_ne]; exact h
  go_enter Tryz.func44, Tryz.ntmps44
  go_wp2
  go_ret
  exact ⟨rfl, k1⟩
def Er (w : World) (g : Nat) (to : List Ev) : Prop := ∀ (j : Nat) (x : Ev), to[j]? = some x -> w.cell? ⟨g, j * 6, none⟩ = some (.int .i64 x.k) /\ w.cell? ⟨g, j * 6 + 1, none⟩ = some (.string x.tx) /\ w.cell? ⟨g, j * 6 + 2, none⟩ = some (.string x.tg) /\ w.cell? ⟨g, j * 6 + 3, none⟩ = some (.string x.an) /\ w.cell? ⟨g, j * 6 + 4, none⟩ = some (.int .i64 x.st) /\ w.cell? ⟨g, j * 6 + 5, none⟩ = some (.bool x.fl)
theorem Er.on {w w' : World} {g : Nat} {to : List Ev} (h : Er w g to) (hb : Below w.heap.size w w') : Er w' g to := fun j x hx => by
 obtain ⟨h0, h1, h2, h3, h4, h5⟩ := h j x hx
 have hl : g < w.heap.size := World.block_lt_of_cell? w _ h0
 exact ⟨(hb.cell (p := ⟨g, _, none⟩) hl).trans h0, (hb.cell (p := ⟨g, _, none⟩) hl).trans h1, (hb.cell (p := ⟨g, _, none⟩) hl).trans h2, (hb.cell (p := ⟨g, _, none⟩) hl).trans h3, (hb.cell (p := ⟨g, _, none⟩) hl).trans h4, (hb.cell (p := ⟨g, _, none⟩) hl).trans h5⟩
theorem flE_get : ∀ (to : List Ev) (j t : Nat) (x : Ev), to[j]? = some x -> t < 6 -> (flE to)[j * 6 + t]? = x.c[t]?
 | [], j, t, x, h, _ => by simp at h
 | e :: to, 0, t, x, h, ht => by
  simp at h
  subst h
  rw [flE, Nat.zero_mul, Nat.zero_add, List.getElem?_append_left (by simpa [Ev.c] using ht)]
 | e :: to, j + 1, t, x, h, ht => by
  rw [flE, List.getElem?_append_right (by simp [Ev.c]; omega), show (j + 1) * 6 + t - e.c.length = j * 6 + t by simp [Ev.c]; omega]
  exact flE_get to j t x (by simpa using h) ht
theorem er_of {w : World} {base g cap n : Nat} {to : List Ev} (h : w.ownsRow base 50 6 (.slice (some ⟨g, 0, none⟩) n cap) n (flE to)) : Er w g to := fun j x hx => by
 have f := fun t ht => flE_get to j t x hx ht
 have a0 := f 0 (by decide)
 have a1 := f 1 (by decide)
 have a2 := f 2 (by decide)
 have a3 := f 3 (by decide)
 have a4 := f 4 (by decide)
 have a5 := f 5 (by decide)
 exact ⟨row_cell h _ _ a0, row_cell h _ _ a1, row_cell h _ _ a2, row_cell h _ _ a3, row_cell h _ _ a4, row_cell h _ _ a5⟩
def holF : List Ev -> Option Nat
 | [] => none
 | x :: l => if x.k = 0 then some 0 else (holF l).map (· + 1)
theorem holF_take : ∀ (to : List Ev) (k : Nat) (x : Ev), to[k]? = some x -> x.k = 0 -> (∀ (j : Nat) (y : Ev), j < k -> to[j]? = some y -> y.k ≠ 0) -> holF to = some k
 | [], k, x, h, _, _ => by simp at h
 | e :: to, 0, x, h, hx, _ => by
  simp at h
  subst h
  rw [holF, if_pos hx]
 | e :: to, k + 1, x, h, hx, hj => by
  rw [holF, if_neg (hj 0 e (by omega) rfl), holF_take to k x (by simpa using h) hx (fun j y hjk hy => hj (j + 1) y (by omega) (by simpa using hy))]
  rfl
theorem holF_none : ∀ (to : List Ev), (∀ (j : Nat) (y : Ev), to[j]? = some y -> y.k ≠ 0) -> holF to = none
 | [], _ => rfl
 | e :: to, h => by
  rw [holF, if_neg (h 0 e rfl), holF_none to (fun j y hy => h (j + 1) y (by simpa using hy))]
  rfl
def holI (o : Option Nat) : Int := match o with | none => -1 | some i => (i : Nat)
theorem indexFunc_any {w : World} {g cap : Nat} {to : List Ev} (h : Er w g to) (hl : to.length <= 1000000000) :
  Calls Tryz.prog 79 #[.slice (some ⟨g, 0, none⟩) to.length cap, .func (.func 44) #[] #[]] w fun en w' => en = .returned (.int .i64 (holI (holF to))) /\ Below w.heap.size w w' := by
 have HE : Hid (Er w g to) := h
 have hlI : (to.length : Int) <= 1000000000 := by omega
 clear h
 go_enter Tryz.func79, Tryz.ntmps79
 go_wp2
 go_loopw [8] (fun iv wr => ∃ k : Nat, iv = .int .i64 k /\ Hid (k <= to.length /\ Below w.heap.size w wr /\ ∀ j y, j < k -> to[j]? = some y -> y.k ≠ 0)) (fun iv _ => to.length - (intOf iv).toNat)
 case atStart => exact ⟨0, rfl, Nat.zero_le _, Below.refl _ _, fun j y hj => by omega⟩
 case round =>
  obtain ⟨k, rfl, HI⟩ := hrel
  obtain ⟨hk, hB, hno⟩ := HI.out
  clear HI
  by_cases hlt : k < to.length
  ·have hltI : (k : Int) < (to.length : Int) := by omega
   obtain ⟨x, hx⟩ : ∃ x, to[k]? = some x := ⟨_, List.getElem?_eq_getElem hlt⟩
   obtain ⟨c0, c1, c2, c3, c4, c5⟩ := HE.out.on hB k x hx
   have EV := ev44_any x wr
   have HB : Hid (Below w.heap.size w wr) := hB
   by_cases hx0 : x.k = 0
   ·rw [decide_eq_true hx0] at EV
    have HR : Hid (holI (holF to) = (k : Int)) := by show _ = _; rw [holF_take to k x hx hx0 hno]; rfl
    clear hB hno hx0
    go_wp2_with (first | (go_at_call 44; refine EV.mono ?_; clear EV; rintro en V1 ⟨rfl, hB1⟩))
    go_ret
    exact ⟨by rw [HR.out]; rfl, HB.out.trans (hB1.mono HB.out.size)⟩
   ·rw [decide_eq_false hx0] at EV
    have HN : Hid (∀ j y, j < k + 1 -> to[j]? = some y -> y.k ≠ 0) := fun j y hj hy => by
     by_cases e : j = k
     ·rw [e, hx] at hy; cases hy; exact hx0
     ·exact hno j y (by omega) hy
    clear hB hno hx0
    go_wp2_with (first | (go_at_call 44; refine EV.mono ?_; clear EV; rintro en V1 ⟨rfl, hB1⟩))
    go_roundw
    case rel => exact ⟨k + 1, by simp, by omega, HB.out.trans (hB1.mono HB.out.size), HN.out⟩
    case measure => simp [intOf]; omega
  ·have hge : ¬ (k : Int) < (to.length : Int) := by omega
   have HR : Hid (holI (holF to) = -1) := by
    show _ = _
    rw [holF_none to (fun j y hy => hno j y (by have := (List.getElem?_eq_some_iff.1 hy).1; omega) hy)]
    rfl
   have HB : Hid (Below w.heap.size w wr) := hB
   clear hB hno
   go_wp2
   go_ret
   exact ⟨by rw [HR.out]; rfl, HB.out⟩
def nz (x : Ev) : Bool := !decide (x.k = 0)
theorem wpList_clear_run {P : Program} {w w' : World} {ops : Array Oper} {rest : List Oper} {o : Oper} {a : Act} {Q : Exit -> Act -> World -> Prop} (hgd : o.guard = none) (s : Operand) (t : TypeId)
  (ho : o.op = .call { callee := .builtin .clear, args := #[s], argTypes := #[t] }) {u v : Value} (hs : a.eval s = u)
  (hrun : (Builtin.clear_ #[t] o.type #[u]).run P w = .ok v w') (h : wpList P ops Q rest (a.put o.dst v) w') : wpList P ops Q (o :: rest) a w :=
 wpList_plain hgd fun K hK => by
  unfold Oper.wp execOp
  simp [ho, resolve, invoke, builtin, hs, hrun, Result.andThen]
  exact hK _ _ h
theorem und27 : Tryz.prog.underlying 27 = some (.slice 50) := by kernel_rfl
theorem siz50 (w : World) : (sizeOf 50).run Tryz.prog w = .ok 6 w := by kernel_rfl
theorem cut27_to (p : Option Addr) (len cap m : Nat) (hs : m <= cap) (w2 : World) : (Instr.slice 27 (.slice p len cap) none (some (.int .i64 m)) none).run Tryz.prog w2 = .ok (.slice p m cap) w2 := by
 have h0 : (m : Int) <= cap := by omega
 have hu := und27
 have hz := siz50
 cases p with
 | none => simp [go_sem, h0, hu, hz]
 | some a =>
  obtain ⟨b, o, sp⟩ := a
  by_cases hc : cap = 0
  ·subst hc; obtain rfl : m = 0 := by omega
   simp [go_sem, hu, hz]
  ·cases sp <;> simp [go_sem, h0, hc, Addr.add, hu, hz]
theorem cut27_from (g len cap m : Nat) (hm : m < len) (hl : len <= cap) (w2 : World) : (Instr.slice 27 (.slice (some ⟨g, 0, none⟩) len cap) (some (.int .i64 m)) none none).run Tryz.prog w2 = .ok (.slice (some ⟨g, m * 6, none⟩) (len - m) (cap - m)) w2 := by
 have h0 : (m : Int) <= len := by omega
 have h1 : (len : Int) <= cap := by omega
 have hu := und27
 have hz := siz50
 have hc : ¬ cap = m := by omega
 simp [go_sem, h0, h1, hu, hz, hc, Addr.add]
 intro h9
 omega
structure Ek (g : Nat) (A B : World) : Prop where
 os : B.os = A.os
 tape : B.tape = A.tape
 output : B.output = A.output
 size : A.heap.size <= B.heap.size
 same : ∀ k, k < A.heap.size -> k ≠ g -> B.heap[k]? = A.heap[k]?
theorem Ek.refl (g : Nat) (A : World) : Ek g A A := ⟨rfl, rfl, rfl, Nat.le_refl _, fun _ _ _ => rfl⟩
theorem Ek.trans {g : Nat} {A B C : World} (h : Ek g A B) (k : Ek g B C) : Ek g A C := ⟨k.os.trans h.os, k.tape.trans h.tape, k.output.trans h.output, Nat.le_trans h.size k.size, fun j hj hg => (k.same j (Nat.lt_of_lt_of_le hj h.size) hg).trans (h.same j hj hg)⟩
theorem Ek.of {g : Nat} {A B : World} (h : Below A.heap.size A B) : Ek g A B := ⟨h.os, h.tape, h.output, h.size, fun j hj _ => h.block j hj⟩
theorem Ek.set {g : Nat} (A : World) (o : Nat) (v : Value) : Ek g A (A.setCell ⟨g, o, none⟩ v) := ⟨rfl, rfl, rfl, by simp [World.setCell], fun j _ hj => Below.heap_setCell _ _ _ _ hj⟩
theorem Ek.sets {g : Nat} : ∀ (vs : List Value) (A : World) (o : Nat), Ek g A (A.setCells g o vs)
 | [], A, o => Ek.refl g A
 | v :: vs, A, o => (Ek.set A o v).trans (Ek.sets vs _ (o + 1))
theorem row_put {w : World} {base g cap : Nat} {rs : List Ev} (h : w.ownsRow base 50 6 (.slice (some ⟨g, 0, none⟩) rs.length cap) rs.length (flE rs)) (i : Nat) (hi : i < rs.length) (x : Ev) :
  (w.setCells g (i * 6) x.c).ownsRow base 50 6 (.slice (some ⟨g, 0, none⟩) (rs.set i x).length cap) (rs.set i x).length (flE (rs.set i x)) := by
 have r1 := row_set h (i * 6) (.int .i64 x.k) (by omega)
 have r2 := row_set r1 (i * 6 + 1) (.string x.tx) (by omega)
 have r3 := row_set r2 (i * 6 + 2) (.string x.tg) (by omega)
 have r4 := row_set r3 (i * 6 + 3) (.string x.an) (by omega)
 have r5 := row_set r4 (i * 6 + 4) (.int .i64 x.st) (by omega)
 have r6 := row_set r5 (i * 6 + 5) (.bool x.fl) (by omega)
 rw [flE_set rs i x hi] at r6
 rw [List.length_set]
 exact r6
theorem row_there {w : World} {base g cap : Nat} {rs : List Ev} (h : w.ownsRow base 50 6 (.slice (some ⟨g, 0, none⟩) rs.length cap) rs.length (flE rs)) (i : Nat) (hi : i < rs.length) : w.there g (i * 6) 6 := fun j hj => by
 have hlen : i * 6 + j < (flE rs).length := by rw [flE_len]; omega
 refine ⟨?_, row_frozen h _⟩
 rw [row_cell h (i * 6 + j) _ (List.getElem?_eq_getElem hlen)]
 rfl
theorem flE_take : ∀ (rs : List Ev) (i : Nat), i <= rs.length -> (flE rs).take (i * 6) = flE (rs.take i)
 | rs, 0, _ => by simp [flE]
 | [], i + 1, h => by simp at h
 | x :: rs, i + 1, h => by
  rw [flE, show (i + 1) * 6 = x.c.length + i * 6 by simp [Ev.c]; omega, List.take_length_add_append, List.take_succ_cons, flE, flE_take rs i (by simpa using h)]
theorem zc50 (n : Nat) : ((Builtin.zeroCells #[.int .i64 0, .string ⟨#[]⟩, .string ⟨#[]⟩, .string ⟨#[]⟩, .int .i64 0, .bool false] n).toList.length = n * 6) /\ ∀ v ∈ (Builtin.zeroCells #[.int .i64 0, .string ⟨#[]⟩, .string ⟨#[]⟩, .string ⟨#[]⟩, .int .i64 0, .bool false] n).toList, v.oneCell' = true := by
 refine ⟨by rw [Array.length_toList, size_zeroCells]; rfl, fun v hv => ?_⟩
 simp only [Builtin.zeroCells, Array.toList_map, List.mem_map] at hv
 obtain ⟨j, -, rfl⟩ := hv
 have hj : j % 6 < 6 := Nat.mod_lt _ (by decide)
 show Value.oneCell' ((#[Value.int .i64 0, .string ⟨#[]⟩, .string ⟨#[]⟩, .string ⟨#[]⟩, .int .i64 0, .bool false] : Array Value)[j % 6]!) = true
 generalize j % 6 = t at hj
 match t, hj with
 | 0, _ => rfl
 | 1, _ => rfl
 | 2, _ => rfl
 | 3, _ => rfl
 | 4, _ => rfl
 | 5, _ => rfl
theorem row_clear {w : World} {base g cap : Nat} {rs : List Ev} (h : w.ownsRow base 50 6 (.slice (some ⟨g, 0, none⟩) rs.length cap) rs.length (flE rs)) (i : Nat) (hi : i < rs.length) (ty : TypeId) :
  ∃ w', (Builtin.clear_ #[27] ty #[.slice (some ⟨g, i * 6, none⟩) (rs.length - i) (cap - i)]).run Tryz.prog w = .ok (.tuple #[]) w' /\ w'.ownsRow base 50 6 (.slice (some ⟨g, 0, none⟩) (rs.take i).length cap) (rs.take i).length (flE (rs.take i)) /\ Ek g w w' := by
 obtain ⟨i0, hii, hz0, hz1, hz2⟩ := info_parts Tryz.info50
 obtain ⟨h0, ⟨e, -⟩ | ⟨g', cap', cur, e, hb, hg, h1, h2, h3, h4⟩⟩ := h
 ·cases e
 ·simp only [Value.slice.injEq, Option.some.injEq, Addr.mk.injEq, and_true, true_and] at e
  obtain ⟨rfl, rfl⟩ := e
  obtain ⟨z1, z2⟩ := zc50 (rs.length - i)
  have hst := run_storeCells_at (P := Tryz.prog) g (i * 6) 50 _ 0 cur w hg (by rw [z1]; omega) z2
  have hlt : (rs.take i).length = i := by rw [List.length_take]; omega
  obtain ⟨Z, hZ⟩ : ∃ Z, (Builtin.zeroCells #[.int .i64 0, .string ⟨#[]⟩, .string ⟨#[]⟩, .string ⟨#[]⟩, .int .i64 0, .bool false] (rs.length - i)).toList = Z := ⟨_, rfl⟩
  rw [hZ] at z1 hst
  refine ⟨w.setRow g (cur.toList.take (i * 6 + 0) ++ Z ++ cur.toList.drop (i * 6 + 0 + Z.length)).toArray, ?_, ?_, ?_⟩
  rotate_left
  ·rw [hlt]
   refine ⟨by rw [flE_len, hlt], .inr ⟨g, cap, _, rfl, hb, setRow_heap w g cur _ 50 _ hg, by omega, h2, ?_, ?_⟩⟩
   rotate_left
   ·rw [<- flE_take rs i (by omega), <- h4]
    show List.take (i * 6) (cur.toList.take (i * 6 + 0) ++ Z ++ cur.toList.drop (i * 6 + 0 + Z.length)) = _
    rw [List.append_assoc, List.take_append_of_le_length (by rw [List.length_take, Array.length_toList]; omega), List.take_take, List.take_take, show min (i * 6) (i * 6 + 0) = i * 6 by omega, show min (i * 6) (rs.length * 6) = i * 6 by omega]
   ·simp only [List.size_toArray, List.length_append, List.length_take, List.length_drop, Array.length_toList, z1]
    omega
  ·exact ⟨rfl, rfl, rfl, by simp, fun k _ hk => setRow_other w g k _ hk⟩
  ·have hzc : (Value.agg #[.int .i64 0, .string ⟨#[]⟩, .string ⟨#[]⟩, .string ⟨#[]⟩, .int .i64 0, .bool false]).cells = #[.int .i64 0, .string ⟨#[]⟩, .string ⟨#[]⟩, .string ⟨#[]⟩, .int .i64 0, .bool false] := rfl
   obtain ⟨nn, hnn⟩ : ∃ nn, rs.length - i = nn + 1 := ⟨rs.length - i - 1, by omega⟩
   rw [hnn] at hZ |-
   simp [Builtin.clear_, run_underlying und27, zeroValue, typeInfo, hii, hz0, hzc, hZ]
   rw [hst]
   simp
theorem holF_filter : ∀ (to : List Ev), holF to = none -> to.filter nz = to
 | [], _ => rfl
 | e :: to, h => by
  rw [holF] at h
  split at h
  ·cases h
  ·rename_i hk
   rw [List.filter_cons_of_pos (by simp [nz, hk]), holF_filter to (by simpa using h)]
theorem holF_some : ∀ (to : List Ev) (i : Nat), holF to = some i -> i < to.length /\ to.take i = (to.take (i + 1)).filter nz
 | [], i, h => by cases h
 | e :: to, i, h => by
  rw [holF] at h
  split at h
  ·rename_i hk
   cases h
   refine ⟨by simp, ?_⟩
   rw [List.take_succ_cons, List.take_zero, List.take_zero, List.filter_cons_of_neg (by simp [nz, hk])]
   rfl
  ·rename_i hk
   cases hf : holF to with
   | none => rw [hf] at h; cases h
   | some j =>
    rw [hf] at h
    cases h
    obtain ⟨h1, h2⟩ := holF_some to j hf
    refine ⟨by simp; omega, ?_⟩
    rw [List.take_succ_cons, List.take_succ_cons, List.filter_cons_of_pos (by simp [nz, hk]), <- h2]
theorem take_set {α : Type} (rs : List α) (i : Nat) (x : α) (hi : i < rs.length) : (rs.set i x).take (i + 1) = rs.take i ++ [x] := by
 rw [List.take_add_one, List.take_set_of_le (Nat.le_refl _), List.getElem?_set_self hi]
 rfl
theorem deleteFunc_any {w : World} {base g cap : Nat} {to : List Ev} (h : w.ownsRow base 50 6 (.slice (some ⟨g, 0, none⟩) to.length cap) to.length (flE to)) (hl : to.length <= 1000000000) :
  Calls Tryz.prog 43 #[.slice (some ⟨g, 0, none⟩) to.length cap, .func (.func 44) #[] #[]] w fun en w' => en = .returned (.slice (some ⟨g, 0, none⟩) (to.filter nz).length cap) /\ w'.ownsRow base 50 6 (.slice (some ⟨g, 0, none⟩) (to.filter nz).length cap) (to.filter nz).length (flE (to.filter nz)) /\ Ek g w w' := by
 have IX := indexFunc_any (cap := cap) (er_of h) hl
 obtain ⟨n, hn⟩ : ∃ n, to.length = n := ⟨_, rfl⟩
 have hlI : (n : Int) <= 1000000000 := by omega
 have hcap : n <= cap := by
  obtain ⟨-, ⟨e, -⟩ | ⟨g', cap', cur, e, -, -, h1, -⟩⟩ := h
  ·cases e
  ·simp only [Value.slice.injEq] at e; omega
 cases hf : holF to with
 | none =>
  rw [hf] at IX
  simp only [holI] at IX
  rw [holF_filter to hf]
  have HH : Hid (w.ownsRow base 50 6 (.slice (some ⟨g, 0, none⟩) to.length cap) to.length (flE to)) := h
  clear h hf hn hcap hlI
  go_enter Tryz.func43, Tryz.ntmps43
  go_wp2_with (first | (go_at_call 79; refine IX.mono ?_; clear IX; rintro en V1 ⟨rfl, hB1⟩))
  go_ret
  exact ⟨rfl, row_on HH.out hB1, Ek.of hB1⟩
 | some i0 =>
  rw [hf] at IX
  simp only [holI] at IX
  obtain ⟨hi0, htk⟩ := holF_some to i0 hf
  have hne : ((i0 : Int) == -1) = false := by rw [beq_eq_false_iff_ne]; omega
  have hi0I : (i0 : Int) <= 1000000000 := by omega
  have hne2 : ¬ (i0 : Int) = -1 := by omega
  have HH : Hid (∀ V, Below w.heap.size w V -> i0 < i0 + 1 /\ i0 + 1 <= n /\ to.length = n /\ to.take i0 = (to.take (i0 + 1)).filter nz /\ to.drop (i0 + 1) = to.drop (i0 + 1) /\ V.ownsRow base 50 6 (.slice (some ⟨g, 0, none⟩) n cap) n (flE to) /\ Ek g w V) := fun V hB => ⟨by omega, by omega, hn, htk, rfl, by rw [<- hn]; exact row_on h hB, Ek.of hB⟩
  rw [hn] at IX |-
  clear h hf htk
  go_enter Tryz.func43, Tryz.ntmps43
  go_wp2_with (first | (go_at_call 79; refine IX.mono ?_; clear IX; rintro en V1 ⟨rfl, hB1⟩; have HS := HH.out V1 hB1; have HS0 : Hid _ := HS; clear HS HH))
  go_loopw [5, 6] (fun iv jv wr => ∃ (i j : Nat) (rs : List Ev), iv = .int .i64 i /\ jv = .int .i64 j /\ Hid (i < j /\ j <= n /\ rs.length = n /\ rs.take i = (to.take j).filter nz /\ rs.drop j = to.drop j /\ wr.ownsRow base 50 6 (.slice (some ⟨g, 0, none⟩) n cap) n (flE rs) /\ Ek g w wr)) (fun _ jv _ => n - (intOf jv).toNat)
  case atStart =>
   obtain ⟨a1, a2, a3, a4, -, a6, a7⟩ := HS0.out
   exact ⟨i0, i0 + 1, to, rfl, by simp, a1, a2, a3, a4, rfl, a6, a7⟩
  case round =>
   obtain ⟨i, j, rs, rfl, rfl, HI⟩ := hrel
   clear HS0
   obtain ⟨hij, hjn, hrl, htk, hdr, hro, hek⟩ := HI.out
   clear HI
   have hiI : (i : Int) <= 1000000000 := by omega
   have hjI : (j : Int) <= 1000000000 := by omega
   by_cases hlt : j < n
   ·have hltI : (j : Int) < (n : Int) := by omega
    have hlti : (i : Int) < (n : Int) := by omega
    obtain ⟨x, hx⟩ : ∃ x, to[j]? = some x := ⟨_, List.getElem?_eq_getElem (by omega)⟩
    have hxr : rs[j]? = some x := by
     have h9 := congrArg (fun l => l[0]?) hdr
     simp only [List.getElem?_drop, Nat.add_zero] at h9
     rw [h9, hx]
    obtain ⟨xk, xt, xg, xa, xs, xf⟩ := x
    obtain ⟨c0, c1, c2, c3, c4, c5⟩ := er_of hro j _ hxr
    have kA := below_alloc wr (.cells #[.int .i64 xk, .string xt, .string xg, .string xa, .int .i64 xs, .bool xf] 50)
    have bxs := box_new wr #[.int .i64 xk, .string xt, .string xg, .string xa, .int .i64 xs, .bool xf] 50
    have b0 := bxs 0
    have b1 := bxs 1
    have b2 := bxs 2
    have b3 := bxs 3
    have b4 := bxs 4
    have b5 := bxs 5
    simp only [List.getElem?_toArray, List.getElem?_cons_zero, List.getElem?_cons_succ] at b0 b1 b2 b3 b4 b5
    have EV := ev44_any ⟨xk, xt, xg, xa, xs, xf⟩ (wr.alloc (.cells #[.int .i64 xk, .string xt, .string xg, .string xa, .int .i64 xs, .bool xf] 50))
    simp only [Ev.v] at EV
    have htk1 : (to.take (j + 1)).filter nz = (to.take j).filter nz ++ (if nz ⟨xk, xt, xg, xa, xs, xf⟩ then [⟨xk, xt, xg, xa, xs, xf⟩] else []) := by
     rw [List.take_add_one, hx, List.filter_append]
     congr 1
     simp [List.filter_cons]
    have hdr1 : rs.drop (j + 1) = to.drop (j + 1) := by
     have h9 := congrArg (List.drop 1) hdr
     rwa [List.drop_drop, List.drop_drop] at h9
    by_cases hx0 : xk = 0
    ·rw [decide_eq_true hx0] at EV
     have HN : Hid (∀ V, Below (wr.alloc (.cells #[.int .i64 xk, .string xt, .string xg, .string xa, .int .i64 xs, .bool xf] 50)).heap.size (wr.alloc (.cells #[.int .i64 xk, .string xt, .string xg, .string xa, .int .i64 xs, .bool xf] 50)) V -> i < j + 1 /\ j + 1 <= n /\ rs.length = n /\ rs.take i = (to.take (j + 1)).filter nz /\ rs.drop (j + 1) = to.drop (j + 1) /\ V.ownsRow base 50 6 (.slice (some ⟨g, 0, none⟩) n cap) n (flE rs) /\ Ek g w V) := fun V hB =>
      ⟨by omega, by omega, hrl, by rw [htk1, htk]; simp [nz, hx0], hdr1, row_on hro (kA.trans (hB.mono (by simp))), hek.trans (Ek.of (kA.trans (hB.mono (by simp))))⟩
     clear hro hek htk htk1 hdr hdr1 hx hxr hx0 bxs
     go_wp2_with (first | (go_at_call 44; refine EV.mono ?_; clear EV; rintro en V2 ⟨rfl, hB2⟩; have hn2 := HN.out V2 hB2; have HN2 : Hid _ := hn2; clear hn2 HN))
     go_roundw
     case rel => exact ⟨i, j + 1, rs, rfl, by simp, HN2⟩
     case measure => simp [intOf]; omega
    ·rw [decide_eq_false hx0] at EV
     have HN : Hid (∀ V, Below (wr.alloc (.cells #[.int .i64 xk, .string xt, .string xg, .string xa, .int .i64 xs, .bool xf] 50)).heap.size (wr.alloc (.cells #[.int .i64 xk, .string xt, .string xg, .string xa, .int .i64 xs, .bool xf] 50)) V -> V.there g (i * 6) 6 /\ V.cell? ⟨wr.heap.size, 0, none⟩ = some (.int .i64 xk) /\ V.cell? ⟨wr.heap.size, 1, none⟩ = some (.string xt) /\ V.cell? ⟨wr.heap.size, 2, none⟩ = some (.string xg) /\ V.cell? ⟨wr.heap.size, 3, none⟩ = some (.string xa) /\ V.cell? ⟨wr.heap.size, 4, none⟩ = some (.int .i64 xs) /\ V.cell? ⟨wr.heap.size, 5, none⟩ = some (.bool xf) /\
       Hid (i + 1 < j + 1 /\ j + 1 <= n /\ (rs.set i ⟨xk, xt, xg, xa, xs, xf⟩).length = n /\ (rs.set i ⟨xk, xt, xg, xa, xs, xf⟩).take (i + 1) = (to.take (j + 1)).filter nz /\ (rs.set i ⟨xk, xt, xg, xa, xs, xf⟩).drop (j + 1) = to.drop (j + 1) /\ (V.setCells g (i * 6) [.int .i64 xk, .string xt, .string xg, .string xa, .int .i64 xs, .bool xf]).ownsRow base 50 6 (.slice (some ⟨g, 0, none⟩) n cap) n (flE (rs.set i ⟨xk, xt, xg, xa, xs, xf⟩)) /\ Ek g w (V.setCells g (i * 6) [.int .i64 xk, .string xt, .string xg, .string xa, .int .i64 xs, .bool xf]))) := fun V hB => by
      have hro2 : V.ownsRow base 50 6 (.slice (some ⟨g, 0, none⟩) rs.length cap) rs.length (flE rs) := by rw [hrl]; exact row_on hro (kA.trans (hB.mono (by simp)))
      have hbl : ∀ o v, (wr.alloc (.cells #[.int .i64 xk, .string xt, .string xg, .string xa, .int .i64 xs, .bool xf] 50)).cell? ⟨wr.heap.size, o, none⟩ = some v -> V.cell? ⟨wr.heap.size, o, none⟩ = some v := fun o v hv => (hB.cell (p := ⟨wr.heap.size, o, none⟩) (World.block_lt_of_cell? _ _ hv)).trans hv
      have hput := row_put hro2 i (by omega) ⟨xk, xt, xg, xa, xs, xf⟩
      rw [List.length_set, hrl] at hput
      refine ⟨row_there hro2 i (by omega), hbl _ _ b0, hbl _ _ b1, hbl _ _ b2, hbl _ _ b3, hbl _ _ b4, hbl _ _ b5, by omega, by omega, by rw [List.length_set]; exact hrl, ?_, ?_, hput, (hek.trans (Ek.of (kA.trans (hB.mono (by simp))))).trans (Ek.sets _ _ _)⟩
      ·rw [take_set rs i _ (by omega), htk1, htk]
       simp [nz, hx0]
      ·rw [List.drop_set_of_lt (by omega)]
       exact hdr1
     clear hro hek htk htk1 hdr hdr1 hx hxr bxs
     go_upto_region 9 with (first | (go_at_call 44; refine EV.mono ?_; clear EV; rintro en V2 ⟨rfl, hB2⟩; obtain ⟨TH, v0, v1, v2, v3, v4, v5, HN2⟩ := HN.out V2 hB2; clear HN c0 c1 c2 c3 c4 c5 b0 b1 b2 b3 b4 b5))
     go_upto_region 10 with (refine wpList_store_mid rfl 50 _ _ rfl g (i * 6) #[.int .i64 xk, .string xt, .string xg, .string xa, .int .i64 xs, .bool xf] rfl rfl TH (by kernel_rfl) (by simp [Value.oneCell']) ?_)
     obtain ⟨V3, hV3⟩ : ∃ V3, V2.setCells g (i * 6) [.int .i64 xk, .string xt, .string xg, .string xa, .int .i64 xs, .bool xf] = V3 := ⟨_, rfl⟩
     rw [hV3] at HN2
     change Code.wp _ _ _ _ (V2.setCells g (i * 6) [.int .i64 xk, .string xt, .string xg, .string xa, .int .i64 xs, .bool xf])
     rw [hV3]
     clear hV3 v0 v1 v2 v3 v4 v5 TH
     go_wp2
     go_roundw
     case rel => exact ⟨i + 1, j + 1, rs.set i ⟨xk, xt, xg, xa, xs, xf⟩, by simp, by simp, HN2⟩
     case measure => simp [intOf]; omega
   ·have hge : ¬ (j : Int) < (n : Int) := by omega
    obtain rfl : j = n := by omega
    have htl : to.length <= j := by omega
    rw [List.take_of_length_le htl] at htk
    have hro2 : wr.ownsRow base 50 6 (.slice (some ⟨g, 0, none⟩) rs.length cap) rs.length (flE rs) := by rw [hrl]; exact hro
    obtain ⟨w', hcr, hrw, hekc⟩ := row_clear hro2 i (by omega) 0
    rw [hrl] at hcr
    have hcf := fun w2 => cut27_from g j cap i (by omega) hcap w2
    have hct := fun w2 => cut27_to (some ⟨g, 0, none⟩) j cap i (by omega) w2
    have hli : (rs.take i).length = i := by rw [List.length_take]; omega
    have HF : Hid ((to.filter nz).length = i /\ w'.ownsRow base 50 6 (.slice (some ⟨g, 0, none⟩) (to.filter nz).length cap) (to.filter nz).length (flE (to.filter nz)) /\ Ek g w w') := by
     rw [<- htk]
     exact ⟨hli, hrw, hek.trans hekc⟩
    clear hro hro2 hrw hek hekc htk hdr hli
    go_wp2_with (first | (at_builtin; refine wpList_clear_run rfl _ 27 rfl rfl hcr ?_; clear hcr))
    go_ret
    exact ⟨by rw [HF.out.1]; rfl, HF.out.2.1, HF.out.2.2⟩
theorem events_any {w : World} {wb : Nat} {E : Env} {s : St} {ov tv : Value} (h : Wk w wb E s ov tv) (h0 : 0 < s.to.length) (hl : s.to.length <= 1000000000) :
  Calls Tryz.prog 26 #[(.pointer (some ⟨wb, 0, none⟩))] w fun en w' => ∃ g cap, wb < g /\ en = .returned (.slice (some ⟨g, 0, none⟩) (s.to.filter nz).length cap) /\ w'.ownsRow (wb + 1) 50 6 (.slice (some ⟨g, 0, none⟩) (s.to.filter nz).length cap) (s.to.filter nz).length (flE (s.to.filter nz)) /\ Ek g w w' /\ ∃ cur, w.heap[g]? = some (.cells cur 50 (0, 0)) := by
 obtain ⟨g, cap, rfl, hbg, hlt⟩ := h.to.form h0
 have c7 := h.cell 7
 simp at c7
 have DF := deleteFunc_any h.to hl
 have hty := (row_type h.to (g := g) rfl).2
 have HT : Hid (wb < g /\ ∃ cur, w.heap[g]? = some (.cells cur 50 (0, 0))) := ⟨hbg, hty⟩
 clear h hty
 go_enter Tryz.func26, Tryz.ntmps26
 go_wp2_with (first | (go_at_call 43; refine DF.mono ?_; clear DF; rintro en V1 ⟨rfl, hro, hek⟩))
 go_ret
 exact ⟨g, cap, HT.out.1, rfl, hro, hek, HT.out.2⟩
theorem indexFunc_nil (w : World) : Calls Tryz.prog 79 #[.slice none 0 0, .func (.func 44) #[] #[]] w fun en w' => en = .returned (.int .i64 (-1)) /\ w' = w := by
 go_enter Tryz.func79, Tryz.ntmps79
 go_wp2
 go_loopw [8] (fun iv wr => iv = .int .i64 0 /\ wr = w) (fun iv _ => 0)
 case atStart => exact ⟨rfl, rfl⟩
 case round =>
  obtain ⟨rfl, rfl⟩ := hrel
  go_wp2
  go_ret
  exact ⟨rfl, rfl⟩
theorem deleteFunc_nil (w : World) : Calls Tryz.prog 43 #[.slice none 0 0, .func (.func 44) #[] #[]] w fun en w' => en = .returned (.slice none 0 0) /\ w' = w := by
 have IX := indexFunc_nil w
 go_enter Tryz.func43, Tryz.ntmps43
 go_wp2_with (first | (go_at_call 79; refine IX.mono ?_; clear IX; rintro en V1 ⟨rfl, rfl⟩))
 go_ret
 exact ⟨rfl, rfl⟩
structure Ew (wb : Nat) (A B : World) : Prop where
 os : B.os = A.os
 tape : B.tape = A.tape
 output : B.output = A.output
 size : A.heap.size <= B.heap.size
 same : ∀ k, k <= wb -> k < A.heap.size -> B.heap[k]? = A.heap[k]?
theorem events_all {w : World} {wb : Nat} {E : Env} {s : St} {ov tv : Value} (h : Wk w wb E s ov tv) (hl : s.to.length <= 1000000000) :
  Calls Tryz.prog 26 #[(.pointer (some ⟨wb, 0, none⟩))] w fun en w' => ∃ v, en = .returned v /\ w'.ownsRow (wb + 1) 50 6 v (s.to.filter nz).length (flE (s.to.filter nz)) /\ Ew wb w w' := by
 by_cases h0 : 0 < s.to.length
 ·refine (events_any h h0 hl).mono ?_
  rintro en w' ⟨g, cap, hg, rfl, ho, hek, -⟩
  exact ⟨_, rfl, ho, hek.os, hek.tape, hek.output, hek.size, fun k hk hkl => hek.same k hkl (by omega)⟩
 ·have hnil : s.to = [] := List.eq_nil_of_length_eq_zero (by omega)
  have ho := h.to
  rw [hnil] at ho |-
  obtain ⟨-, ⟨rfl, -⟩ | ⟨g, cap, cur, rfl, hb, hg, h1, h2, h3, h4⟩⟩ := ho
  ·have c7 := h.cell 7
   simp at c7
   have DF := deleteFunc_nil w
   clear h
   go_enter Tryz.func26, Tryz.ntmps26
   go_wp2_with (first | (go_at_call 43; refine DF.mono ?_; clear DF; rintro en V1 ⟨rfl, rfl⟩))
   go_ret
   exact ⟨_, rfl, World.ownsRow_nil _ _ _ _, rfl, rfl, rfl, Nat.le_refl _, fun _ _ _ => rfl⟩
  ·have ho2 : w.ownsRow (wb + 1) 50 6 (.slice (some ⟨g, 0, none⟩) ([] : List Ev).length cap) ([] : List Ev).length (flE []) := by have := h.to; rw [hnil] at this; exact this
   have DF := deleteFunc_any ho2 (by decide)
   have c7 := h.cell 7
   simp at c7
   have HG : Hid (wb < g) := hb
   clear h ho2
   simp only [List.length_nil] at DF c7
   go_enter Tryz.func26, Tryz.ntmps26
   go_wp2_with (first | (go_at_call 43; refine DF.mono ?_; clear DF; rintro en V1 ⟨rfl, hro, hek⟩))
   go_ret
   exact ⟨_, rfl, hro, hek.os, hek.tape, hek.output, hek.size, fun k hk hkl => hek.same k hkl (by have := HG.out; omega)⟩
section
variable {O : Orc} {L : List Lp} {n : Int} {deep : Int} {blk : Bool}
theorem runW_iv {C : Nat} : ∀ (f : Nat) (s s' : St), Iv L C s -> runW O L n deep blk f s = some (.ok s') -> Iv L C s'
 | 0, s, s', h, he => by
  rw [runW] at he
  split at he
  ·cases he; exact h
  ·cases he
 | f + 1, s, s', h, he => by
  rw [runW] at he
  split at he
  ·cases he; exact h
  ·rename_i l r hop
   split at he
   ·cases he
   ·rename_i s2 hs
    exact runW_iv f s2 s' (stpW_goes h hop hs).1 he
theorem nodW_iv {f : Nat} {p : Pl} {s : St} (hp : okL L p) (he : nodW O L n deep blk f p = some (.ok s)) : Iv L (16 * remW L 0 + 16) s := by
 unfold nodW at he
 split at he
 ·cases he
 ·rename_i s0 hb
  exact runW_iv f s0 s (iv_start hp hb) he
end
def colW (L : List Lp) (p : Pl) : Int := match L[p.i]? with | none => 0 | some x => max x.n 0 + (p.k : Nat)
def NodP (O : Orc) (L : List Lp) (n d : Int) (base : Nat) (pl : Option Pl) (en : Ending) (w' : World) : Prop := match pl with
 | none => en = .returned (.tuple #[.slice none 0 0, .int .i64 0, .int .i64 0, .int .i64 2])
 | some p => ∃ r, (∃ f, nodW O L n d false f p = some r) /\ match r with
  | .error c => c ≠ 0 /\ en = .returned (.tuple #[.slice none 0 0, .int .i64 0, .int .i64 0, .int .i64 c])
  | .ok s => ∃ v, en = .returned (.tuple #[v, .int .i64 (s.p.i : Nat), .int .i64 (colW L s.p), .int .i64 0]) /\ w'.ownsRow base 50 6 v (s.to.filter nz).length (flE (s.to.filter nz))
theorem nodW_ne {O : Orc} {L : List Lp} {n deep : Int} {blk : Bool} : ∀ (f : Nat) (s : St) (c : Int), runW O L n deep blk f s = some (.error c) -> c ≠ 0
 | 0, s, c, h => by
  rw [runW] at h
  split at h <;> cases h
 | f + 1, s, c, h => by
  rw [runW] at h
  split at h
  ·cases h
  ·split at h
   ·rename_i c' hc
    cases h
    exact stpW_ne hc
   ·exact nodW_ne f _ c h
theorem nod_ne {O : Orc} {L : List Lp} {n deep : Int} {blk : Bool} {f : Nat} {p : Pl} {c : Int} (h : nodW O L n deep blk f p = some (.error c)) : c ≠ 0 := by
 unfold nodW at h
 split at h
 ·rename_i c' hc
  cases h
  exact begW_ne hc
 ·exact nodW_ne _ _ _ h
theorem results_t4 {fn : Func} {a b c d : Tmp} (h : fn.results = #[.tmp a, .tmp b, .tmp c, .tmp d]) {tmps : Array Value} {W : World} {va vb vc vd : Value} (h1 : tmps.getD a undef = va) (h2 : tmps.getD b undef = vb) (h3 : tmps.getD c undef = vc) (h4 : tmps.getD d undef = vd) : (results fn tmps).run Tryz.prog W = .ok (.tuple #[va, vb, vc, vd]) W := by
 have h1' : tmps[a]?.getD undef = va := by simpa using h1
 have h2' : tmps[b]?.getD undef = vb := by simpa using h2
 have h3' : tmps[c]?.getD undef = vc := by simpa using h3
 have h4' : tmps[d]?.getD undef = vd := by simpa using h4
 simp [results, h, h1', h2', h3', h4', go_sem]
theorem Node_any {O : Orc} {Tb : World -> Prop} (LW : Low O Tb) {w : World} {rb : Nat} {q : Option Addr} {M : List Ln} {c : Nat} (hrb : w.cell? ⟨rb, 0, none⟩ = some (.slice q M.length c)) (hls : Ls w q M) (hcl : M.length <= c) (hch : c <= maxLen) (hl2 : M.length <= 600) (ht2 : ∀ (j : Nat) (x : Ln), M[j]? = some x -> x.t.length <= 1300) (hn2 : ∀ (j : Nat) (x : Ln), M[j]? = some x -> x.n <= 1000000) (ht : Tb w) (h1 : 0 < w.heap.size)
  (line col n d : Int) (hd0 : 0 <= d) (hd1 : d <= 1048576) (hcol : col <= 9223372036854775807) :
  Calls Tryz.prog 12 #[(.pointer (some ⟨rb, 0, none⟩)), .int .i64 line, .int .i64 col, .int .i64 n, .int .i64 d] w fun en w' => NodP O (M.map Ln.lp) n d w.heap.size (plcP (M.map Ln.lp) line col) en w' /\ Below w.heap.size w w' := by
 have hrl := World.block_lt_of_cell? w _ hrb
 have PO := fun m => (callsIn_wide (n := m)).2 (placeOf_any (c := c) hls hl2 ht2 line col hn2 hcol)
 refine (callsIn_wide (n := 9)).1 ?_
 refine callsIn_of_wp Tryz.func12 rfl trivial ?_ rfl
 simp only [Tryz.ntmps12, frm, Nat.reduceAdd, Nat.reduceSub]
 cases hpl : plcP (M.map Ln.lp) line col with
 | none =>
  rw [hpl] at PO
  simp only [plcV] at PO
  clear hls hn2 ht2
  gi_wp2
  first | refine tr2 ?_ | refine tr1 ?_
  gi_at_call 24
  refine (PO _).mono ?_
  clear PO
  rintro en V1 ⟨rfl, hB1⟩
  gi_wp2
  exact bodyPost_ret (results_t4 (va := .slice none 0 0) (vb := .int .i64 0) (vc := .int .i64 0) (vd := .int .i64 2) rfl rfl rfl rfl rfl) rfl ⟨show NodP _ _ _ _ _ none _ _ from rfl, hB1.alloc hB1.size _⟩
 | some p =>
  rw [hpl] at PO
  simp only [plcV, Pl.v] at PO
  have hpk : okL (M.map Ln.lp) p := by
   unfold plcP at hpl
   split at hpl
   ·cases hpl
   ·rename_i x hx
    split at hpl
    ·cases hpl
    ·cases hpl
     exact ⟨x, hx, Nat.min_le_right _ _⟩
  obtain ⟨E, hE⟩ : ∃ E : Env, E = ⟨q, c, M, n, d, false⟩ := ⟨_, rfl⟩
  have hEL : E.L = M.map Ln.lp := by rw [hE]; rfl
  have hf : Fine E := by
   rw [hE]
   exact ⟨by show M.length <= _; omega, fun j x hx => by have := ht2 j x hx; omega, hd0, hd1, hcl, hch, hl2, ht2⟩
  have hpo : Okp E p := by rw [<- hEL] at hpk; exact hpk.okp
  have NW : Hid (∀ W2 : World, Below w.heap.size w W2 -> Calls Tryz.prog 25 #[(.pointer (some ⟨W2.heap.size, 0, none⟩))] ((W2.alloc (.cells #[.slice q M.length c, .int .i64 n, .int .i64 d, .bool false, .int .i64 (p.i : Nat), .int .i64 (p.k : Nat), .slice none 0 0, .slice none 0 0, .int .i64 0] 67)).drew) fun en w' => ∃ r, (∃ f, nodW O (M.map Ln.lp) n d false f p = some r) /\ Post W2.heap.size E ((W2.alloc (.cells #[.slice q M.length c, .int .i64 n, .int .i64 d, .bool false, .int .i64 (p.i : Nat), .int .i64 (p.k : Nat), .slice none 0 0, .slice none 0 0, .int .i64 0] 67)).drew) r en w') := fun W2 hB => by
   have hk : Below w.heap.size w ((W2.alloc (.cells #[.slice q M.length c, .int .i64 n, .int .i64 d, .bool false, .int .i64 (p.i : Nat), .int .i64 (p.k : Nat), .slice none 0 0, .slice none 0 0, .int .i64 0] 67)).drew) := (hB.alloc hB.size _).drew
   have hlin : LsB W2.heap.size ((W2.alloc (.cells #[.slice q M.length c, .int .i64 n, .int .i64 d, .bool false, .int .i64 (p.i : Nat), .int .i64 (p.k : Nat), .slice none 0 0, .slice none 0 0, .int .i64 0] 67)).drew) q M := (hls.b.on hk).le hB.size
   have hwk : Wk ((W2.alloc (.cells #[.slice q M.length c, .int .i64 n, .int .i64 d, .bool false, .int .i64 (p.i : Nat), .int .i64 (p.k : Nat), .slice none 0 0, .slice none 0 0, .int .i64 0] 67)).drew) W2.heap.size E ⟨p, [], [], 0⟩ (.slice none 0 0) (.slice none 0 0) := by
    rw [hE]
    exact ⟨World.alloc_heap_new W2 _, hlin, World.ownsRow_nil _ _ _ _, World.ownsRow_nil _ _ _ _⟩
   have := node_whole LW hf hwk hpo (LW.q.tb w _ (hk.mono h1) ht) (by have := hB.size; omega)
   rw [hEL, hE] at this
   rw [hE]
   exact this
  gi_wp2
  first | refine tr2 ?_ | refine tr1 ?_
  gi_at_call 24
  refine (PO _).mono ?_
  clear PO
  rintro en1 V1 ⟨rfl, hB1⟩
  have hB2 : Below w.heap.size w (V1.alloc (.cells #[.int .i64 (p.i : Nat), .int .i64 (p.k : Nat)] 60)) := hB1.alloc hB1.size _
  have bx : Bx (V1.alloc (.cells #[.int .i64 (p.i : Nat), .int .i64 (p.k : Nat)] 60)) V1.heap.size (p.i : Nat) (p.k : Nat) := World.alloc_heap_new V1 _
  gi_wp2
  generalize V1.alloc (.cells #[.int .i64 (p.i : Nat), .int .i64 (p.k : Nat)] 60) = W2 at hB2 bx |-
  generalize V1.heap.size = B at bx |-
  have y0 := (hB2.cell (p := ⟨rb, 0, none⟩) hrl).trans hrb
  have g0 := bx.cell 0
  have g1 := bx.cell 1
  simp at g0 g1
  have NC := fun m => (callsIn_wide (n := m)).2 (NW.out W2 hB2)
  refine region_pickN (Sq W2) (by kernel_rfl) ?_
  show Any _ _ _ _ _ _ 10 _ ⟨#[_,_,_,_,_,_,_,_,_,_,_,_,_,_,_,_,_,_,_,_,_,_,_,_,_,_,_,_,_,_,_,_,_,_,_,_,_,_,_,_,_,_,_,_,_,_,_,_,_,_,_,_,_], []⟩ W2.drew
  refine .tp 0 (.pointer (some ⟨rb, 0, none⟩)) (Sq.drew W2) ?_
  refine .tp 1 (.pointer (some ⟨rb, 0, none⟩)) (Sq.drew W2) ?_
  refine .tp 2 (.pointer (some ⟨rb, 0, none⟩)) (Sq.drew W2) ?_
  refine .tl 3 (.slice q M.length c) rfl (fun w hw => by have a1 := hw.cell y0; go_simp) (Sq.drew W2) ?_
  refine .tp 4 (.int .i64 n) (Sq.drew W2) ?_
  refine .tp 5 (.int .i64 d) (Sq.drew W2) ?_
  show Any _ _ _ _ _ _ 4 _ ⟨#[_,_,_,_,_,_,_,_,_,_,_,_,_,_,_,_,_,_,_,_,_,_,_,_,_,_,_,_,_,_,_,_,_,_,_,_,_,_,_,_,_,_,_,_,_,_,_,_,_,_,_,_,_], []⟩ _
  refine .tl 6 (.agg #[.int .i64 (p.i : Nat), .int .i64 (p.k : Nat)]) rfl (fun w hw => by have a1 := hw.cell g0; have a2 := hw.cell g1; go_simp) (Sq.drew W2) ?_
  refine .tp 7 (.agg #[.slice q M.length c, .int .i64 n, .int .i64 d, .bool false, .int .i64 (p.i : Nat), .int .i64 (p.k : Nat), .slice none 0 0, .slice none 0 0, .int .i64 0]) (Sq.drew W2) ?_
  refine .on 8 rfl rfl fun K hK => ?_
  go_simp
  refine hK _ _ ((Sq.drew W2).alloc (Nat.le_refl _) _) ?_
  clear hK K
  show Any _ _ _ _ _ _ 1 _ ⟨#[_,_,_,_,_,_,_,_,_,_,_,_,_,_,_,_,_,_,_,_,_,_,_,_,_,_,_,_,_,_,_,_,_,_,_,_,_,_,_,_,_,_,_,_,_,_,_,_,_,_,_,_,_], []⟩ (W2.drew.alloc (.cells #[.slice none 0 0, .int .i64 0, .int .i64 0, .bool false, .int .i64 0, .int .i64 0, .slice none 0 0, .slice none 0 0, .int .i64 0] 67))
  refine .on 9 rfl rfl fun K hK => ?_
  go_simp
  refine hK _ _ (fun k hk => Below.heap_alloc W2 _ k hk) ?_
  clear hK K
  show Any _ _ _ _ _ _ 0 _ ⟨#[_,_,_,_,_,_,_,_,_,_,_,_,_,_,_,_,_,_,_,_,_,_,_,_,_,_,_,_,_,_,_,_,_,_,_,_,_,_,_,_,_,_,_,_,_,_,_,_,_,_,_,_,_], []⟩ ((W2.alloc (.cells #[.slice q M.length c, .int .i64 n, .int .i64 d, .bool false, .int .i64 (p.i : Nat), .int .i64 (p.k : Nat), .slice none 0 0, .slice none 0 0, .int .i64 0] 67)).drew)
  refine Any.done (by kernel_rfl) ?_
  rename_i Kb hKb
  refine hKb _ _ ?_
  clear hKb
  have hB3 : Below w.heap.size w ((W2.alloc (.cells #[.slice q M.length c, .int .i64 n, .int .i64 d, .bool false, .int .i64 (p.i : Nat), .int .i64 (p.k : Nat), .slice none 0 0, .slice none 0 0, .int .i64 0] 67)).drew) := (hB2.alloc hB2.size _).drew
  have hW2 := hB2.size
  have h3s : ((W2.alloc (.cells #[.slice q M.length c, .int .i64 n, .int .i64 d, .bool false, .int .i64 (p.i : Nat), .int .i64 (p.k : Nat), .slice none 0 0, .slice none 0 0, .int .i64 0] 67)).drew).heap.size = W2.heap.size + 1 := by show (W2.alloc _).heap.size = _; simp
  generalize (W2.alloc (.cells #[.slice q M.length c, .int .i64 n, .int .i64 d, .bool false, .int .i64 (p.i : Nat), .int .i64 (p.k : Nat), .slice none 0 0, .slice none 0 0, .int .i64 0] 67)).drew = W3 at NC hB3 h3s |-
  generalize hwb : W2.heap.size = wb at NC hW2 h3s |-
  clear y0 g0 g1 bx NW
  gi_wp2
  first | refine tr2 ?_ | refine tr1 ?_
  gi_at_call 25
  refine (NC _).mono ?_
  clear NC
  rintro en4 V4 ⟨r, ⟨f, hrun⟩, hke, hpost⟩
  have hB4 : Below w.heap.size w V4 := hB3.trans ((hke.below (by omega)).mono hW2)
  cases r with
  | error e =>
   have he := nod_ne hrun
   have e1 : (e == 0) = false := by rw [beq_eq_false_iff_ne]; exact he
   have e2 : (e != 0) = true := by simp [he]
   have hpost : en4 = .returned (.int .i64 e) := hpost
   subst hpost
   have HF : Hid (∃ f, nodW O (M.map Ln.lp) n d false f p = some (.error e)) := ⟨f, hrun⟩
   clear hrun hke hls
   gi_wp2
   exact bodyPost_ret (results_t4 (va := .slice none 0 0) (vb := .int .i64 0) (vc := .int .i64 0) (vd := .int .i64 e) rfl rfl rfl rfl rfl) rfl ⟨⟨.error e, HF.out, he, rfl⟩, hB4⟩
  | ok s =>
   obtain ⟨rfl, ov, tv, hwk⟩ := hpost
   have hiv := nodW_iv hpk hrun
   have hrem := remW_small hf
   rw [hEL] at hrem
   have EV := fun m => (callsIn_wide (n := m)).2 (events_all hwk.drew (by have := hiv.to; omega))
   obtain ⟨x, hx, hsk⟩ := hiv.ok
   have hx2 : ∃ y, M[s.p.i]? = some y /\ y.lp = x := by
    rw [List.getElem?_map] at hx
    cases hm : M[s.p.i]? with
    | none => rw [hm] at hx; cases hx
    | some y => rw [hm] at hx; cases hx; exact ⟨y, rfl, rfl⟩
   obtain ⟨y, hy, rfl⟩ := hx2
   obtain ⟨cc, hcc⟩ : ∃ cc, colW (M.map Ln.lp) s.p = cc := ⟨_, rfl⟩
   have hcc2 : max y.n 0 + (s.p.k : Nat) = cc := by rw [<- hcc]; unfold colW; rw [hx]; rfl
   have COL : Hid (∀ V5, Ew wb V4 V5 -> ∀ m, CallsIn Fence.wide m Tryz.prog 27 #[(.slice q M.length c), (.agg #[.int .i64 (s.p.i : Nat), .int .i64 (s.p.k : Nat)])] V5 fun en w' => en = .returned (.int .i64 cc) /\ Below V5.heap.size V5 w') := fun V5 hew m => by
    have hlin := hwk.lin
    rw [hE] at hlin
    have hb5 : Below wb V4 V5 := ⟨hew.os, hew.tape, hew.output, hew.size, fun k hk => hew.same k (by omega) (by have := hwk.lt; omega)⟩
    have := columnOf_any (c := c) (p := s.p) (hlin.on hb5).1 hl2 hy (by have := ht2 _ y hy; have h8 : s.p.k <= y.t.length := hsk; omega) (hn2 _ y hy)
    rw [hcc2] at this
    exact (callsIn_wide (n := m)).2 this
   have p4 := hwk.cell 4
   have p5 := hwk.cell 5
   simp at p4 p5
   have r0 := (hB4.cell (p := ⟨rb, 0, none⟩) hrl).trans hrb
   have hw4lt := hwk.lt
   have T0 : Tw V4 wb rb V4.drew := ⟨rfl, rfl⟩
   have HRU : Hid (nodW O (M.map Ln.lp) n d false f p = some (.ok s)) := hrun
   have HCC : Hid (colW (M.map Ln.lp) s.p = cc) := hcc
   have HTF : Hid (Below w.heap.size w V4) := hB4
   have hV4s := hB4.size
   have hrw : rb < wb := by omega
   clear hrun hke hls hwk hiv hx hy hcc hcc2 hB4
   gi_wp2
   refine region_pickN (Tw V4 wb rb) (by kernel_rfl) ?_
   show Any _ _ _ _ _ _ 15 _ ⟨#[_,_,_,_,_,_,_,_,_,_,_,_,_,_,_,_,_,_,_,_,_,_,_,_,_,_,_,_,_,_,_,_,_,_,_,_,_,_,_,_,_,_,_,_,_,_,_,_,_,_,_,_,_], []⟩ V4.drew
   refine .tp 1 (.pointer (some ⟨wb, 4, none⟩)) T0 ?_
   refine .tp 2 (.pointer (some ⟨wb, 4, none⟩)) T0 ?_
   refine .tl 3 (.int .i64 (s.p.i : Nat)) rfl (fun w hw => by have a1 := hw.cell p4; go_simp) T0 ?_
   refine .tp 4 (.pointer (some ⟨rb, 0, none⟩)) T0 ?_
   refine .tp 5 (.pointer (some ⟨rb, 0, none⟩)) T0 ?_
   refine .tp 6 (.pointer (some ⟨rb, 0, none⟩)) T0 ?_
   show Any _ _ _ _ _ _ 9 _ ⟨#[_,_,_,_,_,_,_,_,_,_,_,_,_,_,_,_,_,_,_,_,_,_,_,_,_,_,_,_,_,_,_,_,_,_,_,_,_,_,_,_,_,_,_,_,_,_,_,_,_,_,_,_,_], []⟩ _
   refine .tl 7 (.slice q M.length c) rfl (fun w hw => by have a1 := hw.box r0; go_simp) T0 ?_
   refine .tp 8 (.pointer (some ⟨wb, 4, none⟩)) T0 ?_
   refine .tl 9 (.agg #[.int .i64 (s.p.i : Nat), .int .i64 (s.p.k : Nat)]) rfl (fun w hw => by have a1 := hw.cell p4; have a2 := hw.cell p5; go_simp) T0 ?_
   refine .on 0 rfl rfl fun K hK => ?_
   go_simp
   first | refine tr2 ?_ | refine tr1 ?_
   refine (EV _).mono ?_
   clear EV
   rintro en5 V5 ⟨v, rfl, hro5, hew5d⟩
   have hew5 : Ew wb V4 V5 := ⟨hew5d.os, hew5d.tape, hew5d.output, hew5d.size, hew5d.same⟩
   have hV5l := hew5.size
   have T1 : Tw V4 wb rb V5 := ⟨hew5.same wb (Nat.le_refl _) hw4lt, hew5.same rb (by omega) (by omega)⟩
   have CO := COL.out V5 hew5
   refine hK _ _ T1 ?_
   clear hK K
   show Any _ _ _ _ _ _ 5 _ ⟨#[_,_,_,_,_,_,_,_,_,_,_,_,_,_,_,_,_,_,_,_,_,_,_,_,_,_,_,_,_,_,_,_,_,_,_,_,_,_,_,_,_,_,_,_,_,_,_,_,_,_,_,_,_], []⟩ V5
   refine .on 10 rfl rfl fun K hK => ?_
   go_simp
   first | refine tr2 ?_ | refine tr1 ?_
   refine (CO _).mono ?_
   clear CO
   rintro en6 V6 ⟨rfl, hB6⟩
   have T2 : Tw V4 wb rb V6 := ⟨(hB6.block wb (by omega)).trans T1.1, (hB6.block rb (by omega)).trans T1.2⟩
   refine hK _ _ T2 ?_
   clear hK K
   show Any _ _ _ _ _ _ 4 _ ⟨#[_,_,_,_,_,_,_,_,_,_,_,_,_,_,_,_,_,_,_,_,_,_,_,_,_,_,_,_,_,_,_,_,_,_,_,_,_,_,_,_,_,_,_,_,_,_,_,_,_,_,_,_,_], []⟩ V6
   refine .tp 11 v T2 ?_
   refine .tp 12 (.int .i64 (s.p.i : Nat)) T2 ?_
   refine .tp 13 (.int .i64 cc) T2 ?_
   refine .tp 14 (.int .i64 0) T2 ?_
   refine Any.done (by kernel_rfl) ?_
   rename_i Kb hKb
   refine hKb _ _ ?_
   clear hKb
   have hB4s := HTF.out.size
   have hb5 : Below w.heap.size V4 V5 := ⟨hew5.os, hew5.tape, hew5.output, hew5.size, fun k hk => hew5.same k (by omega) (by omega)⟩
   have HF : Hid (Below w.heap.size w V6 /\ V6.ownsRow w.heap.size 50 6 v (s.to.filter nz).length (flE (s.to.filter nz))) := ⟨(HTF.out.trans hb5).trans (hB6.mono (HTF.out.trans hb5).size), row_on (ownsRow_mono hro5 (by omega)) hB6⟩
   clear T0 T1 T2 p4 p5 r0 hb5 hro5 COL
   gi_wp2
   exact bodyPost_ret (results_t4 (va := v) (vb := .int .i64 (s.p.i : Nat)) (vc := .int .i64 cc) (vd := .int .i64 0) rfl rfl rfl rfl rfl) rfl ⟨⟨.ok s, ⟨f, HRU.out⟩, v, by rw [HCC.out], HF.out.2⟩, HF.out.1⟩
end Go.Proofs.YtipbhdhiklmieaaGreatDoor
