/- The lines that upTo gathers, in memory. -/
import Derived.Test.YtipbhdhiklmieaaGreatDoorZAK
import Derived.Test.YtipbhdhiklmieaaGreatDoorZAJ
set_option linter.all false
set_option maxRecDepth 100000
set_option maxHeartbeats 8000000
namespace Go.Proofs.YtipbhdhiklmieaaGreatDoor
open Go.RowKit Go.Shelf
open P8 (Row Mt)
def RwOk (wb : Nat) (w : World) (Rw : List Row) : Prop := ∀ r ∈ Rw, r.t.length <= r.c /\ r.c <= maxLen /\ Is w r.q r.t /\ ∀ a, r.q = some a -> 0 < r.t.length -> a.block < wb
theorem RwOk.on {wb : Nat} {A B : World} {Rw : List Row} (h : RwOk wb A Rw) (hb : Below wb A B) : RwOk wb B Rw := fun r hr => by
 obtain ⟨h1, h2, h3, h4⟩ := h r hr
 exact ⟨h1, h2, h3.below h4 hb, h4⟩
theorem RwOk.push {wb : Nat} {w : World} {Rw : List Row} {r : Row} (h : RwOk wb w Rw) (hr : r.t.length <= r.c /\ r.c <= maxLen /\ Is w r.q r.t /\ ∀ a, r.q = some a -> 0 < r.t.length -> a.block < wb) : RwOk wb w (Rw ++ [r]) := fun x hx => by
 rcases List.mem_append.1 hx with hx | hx
 ·exact h x hx
 ·cases List.mem_singleton.1 hx
  exact hr
theorem RwOk.mt {wb base : Nat} {w : World} {Rw : List Row} {a : Option Addr} {k c : Nat} (h : RwOk wb w Rw) (ho : OwnR w base (.slice a k c) Rw) : Mt w a Rw /\ k = Rw.length /\ k <= c /\ c <= maxLen := by
 have hrow : ∀ (j : Nat) (r : Row), Rw[j]? = some r -> r.t.length <= r.c /\ r.c <= maxLen /\ Is w r.q r.t := fun j r hr => by
  obtain ⟨h1, h2, h3, -⟩ := h r (List.mem_of_getElem? hr)
  exact ⟨h1, h2, h3⟩
 have hh := ho
 obtain ⟨h0, ⟨e, e2⟩ | ⟨g, cap', cur, e, hb, hg, h1, h2, h3, h4⟩⟩ := ho
 ·cases e
  have : Rw = [] := List.eq_nil_of_length_eq_zero (by simpa using e2)
  subst this
  exact ⟨⟨hrow, .inl rfl⟩, rfl, Nat.le_refl _, by unfold maxLen; omega⟩
 ·simp only [Value.slice.injEq] at e
  obtain ⟨e1, e2, e3⟩ := e
  subst e1 e2 e3
  refine ⟨⟨hrow, .inr ⟨g, 0, rfl, fun j r hj => ?_⟩⟩, rfl, h1, h2⟩
  have := hh.cells (g := g) rfl j (rwV r) (by simp only [List.getElem?_map, hj]; rfl)
  rw [add_plain] at this
  exact this
structure Iu (w W3 : World) (wb BL : Nat) (T : List (List Int)) (X : Nat -> Prop) (W : World) : Prop where
 sz : W3.heap.size <= W.heap.size
 bel : Below w.heap.size w W
 box : ∀ k, w.heap.size <= k -> k < W3.heap.size -> k ≠ BL -> W.heap[k]? = W3.heap[k]?
 own : ∀ b, X b -> W3.heap.size <= b /\ b < W.heap.size
 li : ∃ v Rw, Boxed W BL 73 v /\ OwnR W w.heap.size v Rw /\ (∀ g, v.ownBlock = some g -> W3.heap.size <= g /\ ¬ X g) /\ Rw.map (·.t) = T /\ RwOk wb w Rw
section
variable {w W3 : World} {wb BL : Nat} {T : List (List Int)} {X : Nat -> Prop} {W W' : World}
theorem ownR_cells {base : Nat} {v : Value} {Rw : List Row} (h : OwnR W base v Rw) {g : Nat} (hg : v.ownBlock = some g) : g < W.heap.size /\ ∃ cur, W.heap[g]? = some (.cells cur 41 (0, 0)) := by
 obtain ⟨-, cur, h2⟩ := row_type h hg
 exact ⟨(Array.getElem?_eq_some_iff.1 h2).1, cur, h2⟩
theorem Iu.grown {row : Option Nat} (hw : w.heap.size <= W3.heap.size) (hBL : BL < W3.heap.size) (h : Iu w W3 wb BL T X W) (hg : W.grownBy W' row) (hr : ∀ r, row = some r -> X r \/ (W3.heap.size <= r /\ ∃ o : Obj, W.heap[r]? = some o /\ o.isCells = false)) : Iu w W3 wb BL T X W' := by
 have hlow : ∀ r, row = some r -> W3.heap.size <= r := fun r e => by
  rcases hr r e with h' | ⟨h', -⟩
  ·exact (h.own r h').1
  ·exact h'
 have hsz := h.sz
 have hsame : ∀ k, k < W3.heap.size -> W'.heap[k]? = W.heap[k]? := fun k hk => hg.block k (by omega) (fun e => by have := hlow k e.symm; omega)
 obtain ⟨v, Rw, h1, h2, h3, h4, h5⟩ := h.li
 refine ⟨Nat.le_trans h.sz hg.size, h.bel.grown hg h.bel.size (fun k e => by have := hlow k e; omega), fun k a b c => (hsame k b).trans (h.box k a b c), fun b hb => ⟨(h.own b hb).1, Nat.lt_of_lt_of_le (h.own b hb).2 hg.size⟩, v, Rw, (hsame BL hBL).trans h1, h2.kept hg ?_, h3, h4, h5⟩
 cases hv : v.ownBlock with
 | none => exact .inl rfl
 | some g =>
  refine .inr fun e => ?_
  obtain ⟨-, cur, hc⟩ := ownR_cells h2 hv
  rcases hr g e.symm with h' | ⟨-, o, ho, hcl⟩
  ·exact (h3 g hv).2 h'
  ·rw [hc] at ho; cases ho; cases hcl
theorem Iu.on (hw : w.heap.size <= W3.heap.size) (hBL : BL < W3.heap.size) (h : Iu w W3 wb BL T X W) (hb : Below W.heap.size W W') : Iu w W3 wb BL T X W' :=
 h.grown hw hBL (row := none) ⟨hb.os, hb.tape, hb.output, hb.size, fun k hk _ => hb.block k hk⟩ (fun r e => by cases e)
theorem Iu.less {Y : Nat -> Prop} (h : Iu w W3 wb BL T X W) (hY : ∀ b, Y b -> X b) : Iu w W3 wb BL T Y W := by
 obtain ⟨v, Rw, h1, h2, h3, h4, h5⟩ := h.li
 exact ⟨h.sz, h.bel, h.box, fun b hb => h.own b (hY b hb), v, Rw, h1, h2, fun g hg => ⟨(h3 g hg).1, fun hy => (h3 g hg).2 (hY g hy)⟩, h4, h5⟩
theorem Iu.new {row : Option Nat} (hw : w.heap.size <= W3.heap.size) (hBL : BL < W3.heap.size) (h : Iu w W3 wb BL T X W) (hg : W.grownBy W' row) (hr : ∀ r, row = some r -> X r) : Iu w W3 wb BL T (fun b => X b \/ (W.heap.size <= b /\ b < W'.heap.size)) W' := by
 have a := h.grown hw hBL hg (fun r e => .inl (hr r e))
 have hvlt : ∀ v Rw, Boxed W BL 73 v -> OwnR W w.heap.size v Rw -> ∀ g, v.ownBlock = some g -> g < W.heap.size := fun v Rw _ h2 g hg => (ownR_cells h2 hg).1
 obtain ⟨v0, Rw0, g1, g2, -, -, -⟩ := h.li
 obtain ⟨v, Rw, h1, h2, h3, h4, h5⟩ := a.li
 have hsz := h.sz
 have hve : v = v0 := by
  have hlow : ∀ r, row = some r -> W3.heap.size <= r := fun r e => (h.own r (hr r e)).1
  have e1 : W'.heap[BL]? = W.heap[BL]? := hg.block BL (by omega) (fun e => by have := hlow BL e.symm; omega)
  have e2 : W'.heap[BL]? = some (.cells #[v] 73) := h1
  have e3 : W.heap[BL]? = some (.cells #[v0] 73) := g1
  rw [e1, e3] at e2
  simpa using e2.symm
 refine ⟨a.sz, a.bel, a.box, fun b hb => ?_, v, Rw, h1, h2, fun g hg' => ⟨(h3 g hg').1, ?_⟩, h4, h5⟩
 ·rcases hb with hb | ⟨b1, b2⟩
  ·exact a.own b hb
  ·exact ⟨by omega, b2⟩
 ·rintro (hx | ⟨b1, b2⟩)
  ·exact (h3 g hg').2 hx
  ·rw [hve] at hg'
   have := hvlt v0 Rw0 g1 g2 g hg'
   omega
theorem Iu.push {v : Value} {Rw : List Row} (hw : w.heap.size <= BL) (hBL : BL < W3.heap.size) (h : Iu w W3 wb BL T X W) (h1 : Boxed W BL 73 v) (h2 : OwnR W w.heap.size v Rw) (h3 : ∀ g, v.ownBlock = some g -> W3.heap.size <= g /\ ¬ X g) (h4 : Rw.map (·.t) = T) (h5 : RwOk wb w Rw) (hn : Rw.length + 1 <= 1073741824)
  (r : Row) (hr : r.t.length <= r.c /\ r.c <= maxLen /\ Is w r.q r.t /\ ∀ a, r.q = some a -> 0 < r.t.length -> a.block < wb) :
  ∃ g cap w1, (Builtin.append_ #[73, 73] 73 #[v, .slice (some ⟨W.heap.size, 0, none⟩) 1 1]).run Tryz.prog (W.alloc (.cells #[rwV r] 41)) = .ok (.slice (some ⟨g, 0, none⟩) (Rw.length + 1) cap) w1 /\ Boxed w1 BL 73 v /\
   (∀ k, k < W.heap.size -> k ≠ BL -> v.ownBlock ≠ some k -> w1.heap[k]? = W.heap[k]?) /\
   Iu w W3 wb BL (T ++ [r.t]) X (w1.setCell ⟨BL, 0, none⟩ (.slice (some ⟨g, 0, none⟩) (Rw.length + 1) cap)) /\ KeepsFrom W3.heap.size W (w1.setCell ⟨BL, 0, none⟩ (.slice (some ⟨g, 0, none⟩) (Rw.length + 1) cap)) /\ (∀ b, b < W3.heap.size \/ X b -> b ≠ BL -> (w1.setCell ⟨BL, 0, none⟩ (.slice (some ⟨g, 0, none⟩) (Rw.length + 1) cap)).heap[b]? = W.heap[b]?) /\
   W.heap.size <= w1.heap.size /\ OwnR w1 w.heap.size (.slice (some ⟨g, 0, none⟩) (Rw.length + 1) cap) (Rw ++ [r]) /\ RwOk wb w (Rw ++ [r]) /\ Below w.heap.size w w1 /\ KeepsFrom W3.heap.size W w1 := by
 have hsz := h.sz
 obtain ⟨g, cap, w1, hrun, ho1, hg1, hlie⟩ := pushR h2 (by omega) hn r
 have ho' : w1.ownsRow w.heap.size 41 1 (.slice (some ⟨g, 0, none⟩) (Rw.length + 1) cap) (Rw.length + 1) ((Rw ++ [r]).map rwV) := by
  have := ho1
  unfold OwnR at this
  rwa [List.length_append] at this
 obtain ⟨a1, a2, a3, a4, a5⟩ := h1.appended (by decide) h2 (by omega) hw ho' hg1
 have hk1 : ∀ k, k < W.heap.size -> v.ownBlock ≠ some k -> w1.heap[k]? = W.heap[k]? := fun k hk hne => (hg1.block k (by simp; omega) (fun e => hne e.symm)).trans (Below.heap_alloc W _ k hk)
 have hks : ∀ b, b < W3.heap.size \/ X b -> b ≠ BL -> (w1.setCell ⟨BL, 0, none⟩ (.slice (some ⟨g, 0, none⟩) (Rw.length + 1) cap)).heap[b]? = W.heap[b]? := fun b hb hne => by
  have hbl : b < W.heap.size := by rcases hb with hb | hb; omega; exact (h.own b hb).2
  rw [Below.heap_setCell _ _ _ _ hne]
  refine hk1 b hbl (fun e => ?_)
  rcases hb with hb | hb
  ·have := (h3 b e).1; omega
  ·exact (h3 b e).2 hb
 have hbw1 : Below w.heap.size w w1 := by
  refine (h.bel.alloc h.bel.size (.cells #[rwV r] 41)).grown hg1 (by simp; omega) (fun k e => ?_)
  have := (h3 k e).1
  omega
 have hkf1 : KeepsFrom W3.heap.size W w1 := ⟨by have := hg1.size; simp at this; omega, fun k o hk ho hc => by
  have hkl := (Array.getElem?_eq_some_iff.1 ho).1
  refine (hk1 k hkl (fun e => ?_)).trans ho
  obtain ⟨-, cur, hc2⟩ := ownR_cells h2 e
  rw [hc2] at ho; cases ho; cases hc⟩
 refine ⟨g, cap, w1, hrun, a1, fun k hk _ hne => hk1 k hk hne, ⟨?_, ?_, ?_, ?_, _, Rw ++ [r], a2, ?_, ?_, ?_, h5.push hr⟩, a4.from _, hks, by have := hg1.size; simp at this; omega, ?_, h5.push hr, hbw1, hkf1⟩
 ·have := a4.size; omega
 ·exact h.bel.trans a5
 ·exact fun k k1 k2 k3 => (hks k (.inl k2) k3).trans (h.box k k1 k2 k3)
 ·exact fun b hb => ⟨(h.own b hb).1, by have := (h.own b hb).2; have := a4.size; omega⟩
 ·unfold OwnR
  rw [List.length_append]
  exact a3
 ·intro g' e
  cases e
  rcases hlie with hl | hl
  ·exact h3 g hl
  ·exact ⟨by show W3.heap.size <= g; omega, fun hx => by have h9 := (h.own _ hx).2; have h8 : g < W.heap.size := h9; omega⟩
 ·rw [List.map_append, h4]; rfl
 ·unfold OwnR
  rw [List.length_append]
  exact ho'
end
end Go.Proofs.YtipbhdhiklmieaaGreatDoor
namespace Go.Proofs.YtipbhdhiklmieaaGreatDoor
open Go.RowKit Go.Shelf
attribute [local go_sem] Oper.semAt_some
structure Smx (s : St) : Prop where
 to : s.to.length <= 500000000
 op : s.op.length <= 500000000
 ta : s.ta <= 500000000
 la : ∀ l ∈ s.op, l.ta <= 500000000
theorem Smx.sml {s : St} (h : Smx s) : Sml s := ⟨by have := h.to; omega, by have := h.op; omega, by have := h.ta; omega, fun l hl => by have := h.la l hl; omega⟩
theorem Smx.setTop {s : St} {l l' : Lv} {r : List Lv} (h : Smx s) (hop : s.op = l :: r) (ht : l'.ta = l.ta) (p : Pl) : Smx { s with p := p, op := l' :: r } := by
 have h1 := h.op
 rw [hop] at h1
 refine ⟨h.to, h1, h.ta, fun x hx => ?_⟩
 rcases List.mem_cons.1 hx with rfl | hx
 ·rw [ht]; exact h.la l (by rw [hop]; exact List.mem_cons_self)
 ·exact h.la x (by rw [hop]; exact List.mem_cons_of_mem _ hx)
def Begs (O : Orc) (Tb : World -> Prop) (wb : Nat) (E : Env) : Prop := ∀ (V : World) (s : St) (ov tv : Value), Tb V -> Wk V wb E s ov tv -> Sml s -> Okp E s.p -> Calls Tryz.prog 40 #[(.pointer (some ⟨wb, 0, none⟩))] V fun en w' => Post wb E V (begW O E.L E.n E.d E.b s) en w'
section
variable {w : World} {wb : Nat} {E : Env} {s : St} {ov tv : Value} {O : Orc} {Tb : World -> Prop} {l : Lv} {r : List Lv}
theorem Low.keep (LW : Low O Tb) {A B : World} (h : Tb A) (hk : Kee wb A B) (hw : wb <= A.heap.size) (h1 : 0 < wb) : Tb B := LW.q.tb A B ((hk.below hw).mono h1) h
theorem Wk.tops {g cap : Nat} (h : Wk w wb E s (.slice (some ⟨g, 0, none⟩) (r.length + 1) cap) tv) (hop : s.op = l :: r) :
  w.cell? ⟨g, r.length * 7, none⟩ = some (.int .i64 l.cl) /\ w.cell? ⟨g, r.length * 7 + 1, none⟩ = some (.bool l.pr) /\ w.cell? ⟨g, r.length * 7 + 2, none⟩ = some (.int .u8 (l.nx : Nat)) /\ w.cell? ⟨g, r.length * 7 + 3, none⟩ = some (.int .i64 (l.bi : Nat)) /\ w.cell? ⟨g, r.length * 7 + 3 + 1, none⟩ = some (.int .i64 (l.bk : Nat)) /\ w.cell? ⟨g, r.length * 7 + 5, none⟩ = some (.int .i64 (l.ho : Nat)) /\ ∀ o, w.frozen? ⟨g, o, none⟩ = false := by
 obtain ⟨g', cap', e, -, -, -, -, hc, hf, -⟩ := h.top hop
 cases e
 refine ⟨?_, ?_, ?_, ?_, ?_, ?_, hf⟩
 ·rcases hc 0 with h | h; (exact h); omega
 ·rcases hc 1 with h | h; (exact h); omega
 ·rcases hc 2 with h | h; (exact h); omega
 ·rcases hc 3 with h | h; (exact h); omega
 ·rcases hc 4 with h | h; (exact h); omega
 ·rcases hc 5 with h | h; (exact h); omega
structure Vq (w V : World) (wb : Nat) (E : Env) (s : St) (ov tv : Value) (B : Nat) (q : Pl) : Prop where
 k : Kee wb w V
 w : Wk V wb E s ov tv
 b : Bx V B (q.i : Nat) (q.k : Nat)
theorem Vq.on {V V' : World} {B : Nat} {q : Pl} (h : Vq w V wb E s ov tv B q) (hb : Below V.heap.size V V') : Vq w V' wb E s ov tv B q := ⟨h.k.trans (Kee.of hb), h.w.on hb, h.b.on hb⟩
theorem Vq.setL {V : World} {B : Nat} {q : Pl} {l' : Lv} {g cap j : Nat} {x : Value} (h : Vq w V wb E s (.slice (some ⟨g, 0, none⟩) (r.length + 1) cap) tv B q) (hop : s.op = l :: r) (hj : j < 7) (hc : l.c.set j x = l'.c) :
  Vq w (V.setCell ⟨g, r.length * 7 + j, none⟩ x) wb E { s with op := l' :: r } (.slice (some ⟨g, 0, none⟩) (r.length + 1) cap) tv B q := by
 obtain ⟨h1, h2⟩ := h.w.setL hop hj hc
 exact ⟨h.k.trans h2, h1, h.b.kee h2⟩
theorem Vq.setP {V : World} {B : Nat} {q : Pl} (h : Vq w V wb E s ov tv B q) (p : Pl) : Vq w ((V.setCell ⟨wb, 4, none⟩ (.int .i64 (p.i : Nat))).setCell ⟨wb, 5, none⟩ (.int .i64 (p.k : Nat))) wb E { s with p := p } ov tv B q :=
 ⟨h.k.trans (h.w.keeP p), h.w.setP p, h.b.kee (h.w.keeP p)⟩
theorem Vq.cells {V : World} {B : Nat} {q : Pl} (h : Vq w V wb E s ov tv B q) : V.cell? ⟨B, 0, none⟩ = some (.int .i64 (q.i : Nat)) /\ V.cell? ⟨B, 1, none⟩ = some (.int .i64 (q.k : Nat)) /\ V.cell? ⟨wb, 4, none⟩ = some (.int .i64 (s.p.i : Nat)) /\ V.cell? ⟨wb, 5, none⟩ = some (.int .i64 (s.p.k : Nat)) /\ V.frozen? ⟨wb, 4, none⟩ = false /\ V.frozen? ⟨wb, 5, none⟩ = false := by
 have y0 := h.b.cell 0
 have y1 := h.b.cell 1
 have c4 := h.w.cell 4
 have c5 := h.w.cell 5
 simp at y0 y1 c4 c5
 exact ⟨y0, y1, c4, c5, h.w.frozen 4, h.w.frozen 5⟩
theorem value_any (LW : Low O Tb) (BG : Begs O Tb wb E) (h : Wk w wb E s ov tv) (hs : Smx s) (hf : Fine E) (hp : Okp E s.p) (hop : s.op = l :: r) (ht : Tb w) (h1 : 0 < wb) :
  Calls Tryz.prog 76 #[(.pointer (some ⟨wb, 0, none⟩))] w fun en w' => Post wb E w (valW O E.L E.n E.d E.b s l) en w' := by
 obtain ⟨g, cap, rfl, -⟩ := h.top hop
 have NX := next_any LW.c LW.l h hf hp
 have c4 := h.cell 4
 have c5 := h.cell 5
 simp at c4 c5
 have hwl := h.lt
 have hrl := hs.sml.rl hop
 unfold valW gonW
 cases hr : nexW O E.L E.n s.p with
 | error c =>
  have h0 : c ≠ 0 := nexF_ne _ _ _ _ hr
  have e1 : (c == 0) = false := by rw [beq_eq_false_iff_ne]; exact h0
  have e2 : (c != 0) = true := by simp [h0]
  rw [hr] at NX
  simp only [nexV] at NX
  dsimp only
  clear hr h BG
  go_enter Tryz.func76, Tryz.ntmps76
  go_wp2_with (first | (go_at_call 98; refine NX.mono ?_; clear NX; rintro en W1 ⟨rfl, hB⟩))
  go_ret
  exact ⟨Kee.of (hB.alloc hB.size _), rfl⟩
 | ok o =>
  cases o with
  | none =>
   rw [hr] at NX
   simp only [nexV] at NX
   dsimp only
   clear hr h BG
   go_enter Tryz.func76, Tryz.ntmps76
   go_wp2_with (first | (go_at_call 98; refine NX.mono ?_; clear NX; rintro en W1 ⟨rfl, hB⟩))
   go_ret
   exact ⟨Kee.of (hB.alloc hB.size _), rfl⟩
  | some q =>
   obtain ⟨q1, q2, q3⟩ := nexW_goes hp.okL hr
   have hqo := q1.okp
   rw [hr] at NX
   simp only [nexV, Pl.v] at NX
   dsimp only
   have FA : Hid (∀ V1 : World, Below w.heap.size w V1 -> Vq w (V1.alloc (.cells #[.int .i64 (q.i : Nat), .int .i64 (q.k : Nat)] 60)) wb E s (.slice (some ⟨g, 0, none⟩) (r.length + 1) cap) tv V1.heap.size q) := fun V1 hB => ⟨Kee.of (hB.alloc hB.size _), h.on (hB.alloc hB.size _), by show _ = _; exact World.alloc_heap_new V1 _⟩
   have TP : Hid (∀ V B, Vq w V wb E s (.slice (some ⟨g, 0, none⟩) (r.length + 1) cap) tv B q -> Calls Tryz.prog 73 #[.pointer (some ⟨wb, 6, none⟩)] V fun en w' => en = .returned (.pointer (some ⟨g, r.length * 7, none⟩)) /\ Below V.heap.size V w') := fun V B hV => top_any (l := l) hV.w hrl
   have hkb : ∀ V, Kee wb w V -> Tb V := fun V hk => LW.keep ht hk (by omega) h1
   have hpl : (q.k : Int) + 1 <= 9223372036854775807 := by have := hqo.lek hf; omega
   have hq1 := hqo.more (m := 1) (by omega)
   cases hpr : l.pr with
   | false =>
    have hS : (topS s fun l => { l with nx := if l.pr then 3 else 4 }) = { s with op := { l with nx := 4 } :: r } := by unfold topS; rw [hop]; simp only [hpr]; rfl
    rw [hS]
    have hop2 : ({ s with op := { l with nx := 4 } :: r } : St).op = { l with nx := 4 } :: r := rfl
    have hsx : Smx { s with op := { l with nx := 4 } :: r } := hs.setTop (l' := { l with nx := 4 }) hop rfl s.p
    have FB : Hid (∀ V B, Vq w V wb E s (.slice (some ⟨g, 0, none⟩) (r.length + 1) cap) tv B q -> Vq w (V.setCell ⟨g, r.length * 7 + 2, none⟩ (.int .u8 4)) wb E { s with op := { l with nx := 4 } :: r } (.slice (some ⟨g, 0, none⟩) (r.length + 1) cap) tv B q) := fun V B hV => by
     have a := hV.setL (l' := { l with nx := 4 }) (j := 2) (x := .int .u8 4) hop (by decide) rfl
     exact a
    have VS : Hid (∀ V B, Vq w V wb E { s with op := { l with nx := 4 } :: r } (.slice (some ⟨g, 0, none⟩) (r.length + 1) cap) tv B q -> Calls Tryz.prog 122 #[(.pointer (some ⟨wb, 0, none⟩)), q.v] V fun en w' => en = .returned (.bool (sgnW O E.L s q)) /\ Below V.heap.size V w') := fun V B hV => valueSign_any (s := { s with op := { l with nx := 4 } :: r }) LW.c hV.w hf hqo
    have EM : Hid (∀ V B, Vq w V wb E { s with op := { l with nx := 4 } :: r } (.slice (some ⟨g, 0, none⟩) (r.length + 1) cap) tv B q -> Calls Tryz.prog 103 #[(.pointer (some ⟨wb, 0, none⟩)), hs0.v] V fun en w' => (∃ v, en = .returned v) /\ Kee wb V w' /\ ∃ ov' tv', Wk w' wb E (empW O { s with op := { l with nx := 4 } :: r } hs0) ov' tv') := fun V B hV => empty_any LW.t hV.w hsx.sml hs0
    simp only [Hs.v, hs0] at EM
    cases hsg : sgnW O E.L s q with
    | false =>
     rw [hsg] at VS
     rw [if_pos rfl]
     clear hr h BG
     go_enter Tryz.func76, Tryz.ntmps76
     go_wp2_with (first | (go_at_call 98; refine NX.mono ?_; clear NX; rintro en V1 ⟨rfl, hB1⟩; have hq1 := FA.out V1 hB1; obtain ⟨y0, y1, y2, y3, y4, y5⟩ := hq1.cells; have TC := TP.out _ _ hq1; have HQ1 : Hid _ := hq1; clear hq1) | (go_at_call 73; refine TC.mono ?_; clear TC; rintro en V2 ⟨rfl, hB2⟩; have hq2 := HQ1.out.on hB2; obtain ⟨t0, t1, t2, t3, t4, t5, t6⟩ := hq2.w.tops hop; rw [hpr] at t1; have f2 := t6 (r.length * 7 + 2); have hq4 := FB.out _ _ hq2; obtain ⟨u0, u1, u2, u3, u4, u5, u6⟩ := hq4.w.tops rfl; dsimp only at u1 u2; rw [hpr] at u1; obtain ⟨z0, z1, z2, z3, z4, z5⟩ := hq4.cells; have VC := VS.out _ _ hq4; have HQ4 : Hid _ := hq4; clear hq2 hq4) | (go_at_call 122; refine VC.mono ?_; clear VC; rintro en V5 ⟨rfl, hB5⟩; have hq5 := HQ4.out.on hB5; have EC := EM.out _ _ hq5; clear HQ4; have HQ4 : Hid _ := hq5; clear hq5) | (go_at_call 103; refine EC.mono ?_; clear EC; rintro en V9 ⟨⟨v9, rfl⟩, hk9, hw9⟩))
     go_ret
     exact ⟨HQ4.out.k.trans hk9, rfl, hw9⟩
    | true =>
     rw [hsg] at VS
     rw [if_neg (by decide)]
     have PLU : ∀ V : World, Calls Tryz.prog 36 #[q.v, .int .i64 1] V fun en w' => en = .returned (q.plus 1).v /\ Below V.heap.size V w' := fun V => plus_any q 1 V (by omega)
     simp only [Pl.v] at PLU
     have GO : Hid (∀ V B, Vq w V wb E { s with p := q.plus 1, op := { l with nx := 4 } :: r } (.slice (some ⟨g, 0, none⟩) (r.length + 1) cap) tv B q -> Calls Tryz.prog 119 #[.pointer (some ⟨wb, 0, none⟩)] V fun en w' => Kee wb V w' /\ match gonW O E.L E.n (q.plus 1) with | .ok q' => en = .returned (.int .i64 0) /\ Wk w' wb E { s with p := q', op := { l with nx := 4 } :: r } (.slice (some ⟨g, 0, none⟩) (r.length + 1) cap) tv | .error c => en = .returned (.int .i64 c) /\ c ≠ 0) := fun V B hV => goOn_any (s := { s with p := q.plus 1, op := { l with nx := 4 } :: r }) LW.c LW.l hV.w hf hq1
     clear EM
     cases hg : nexW O E.L E.n (q.plus 1) with
     | error c =>
      have hgo : gonW O E.L E.n (q.plus 1) = .error c := by unfold gonW; rw [hg]
      rw [hgo] at GO
      dsimp only at GO |-
      have h0 : c ≠ 0 := gonW_ne hgo
      have e1 : (c == 0) = false := by rw [beq_eq_false_iff_ne]; exact h0
      have e2 : (c != 0) = true := by simp [h0]
      clear hr h BG hg hgo
      go_enter Tryz.func76, Tryz.ntmps76
      go_wp2_with (first | (go_at_call 98; refine NX.mono ?_; clear NX; rintro en V1 ⟨rfl, hB1⟩; have hq1 := FA.out V1 hB1; obtain ⟨y0, y1, y2, y3, y4, y5⟩ := hq1.cells; have TC := TP.out _ _ hq1; have HQ1 : Hid _ := hq1; clear hq1) | (go_at_call 73; refine TC.mono ?_; clear TC; rintro en V2 ⟨rfl, hB2⟩; have hq2 := HQ1.out.on hB2; obtain ⟨t0, t1, t2, t3, t4, t5, t6⟩ := hq2.w.tops hop; rw [hpr] at t1; have f2 := t6 (r.length * 7 + 2); have hq4 := FB.out _ _ hq2; obtain ⟨u0, u1, u2, u3, u4, u5, u6⟩ := hq4.w.tops rfl; dsimp only at u1 u2; rw [hpr] at u1; obtain ⟨z0, z1, z2, z3, z4, z5⟩ := hq4.cells; have VC := VS.out _ _ hq4; have HQ4 : Hid _ := hq4; clear hq2 hq4) | (go_at_call 122; refine VC.mono ?_; clear VC; rintro en V5 ⟨rfl, hB5⟩; have hq5 := HQ4.out.on hB5; obtain ⟨z05, z15, z25, z35, z45, z55⟩ := hq5.cells; have HQ5 : Hid _ := hq5; clear hq5) | (go_at_call 36; refine (PLU _).mono ?_; rintro en V6 ⟨rfl, hB6⟩; have hq6a := HQ5.out.on hB6; obtain ⟨z06, z16, z26, z36, z46, z56⟩ := hq6a.cells; have hq6 := hq6a.setP (q.plus 1); simp only [Pl.plus] at hq6; have GC := GO.out _ _ hq6; have HQ6 : Hid _ := hq6; clear hq6 hq6a) | (go_at_call 119; refine GC.mono ?_; clear GC; rintro en V7 ⟨hk7, rfl, -⟩))
      go_ret
      exact ⟨HQ6.out.k.trans hk7, rfl⟩
     | ok o =>
      cases o with
      | none =>
       have hgo : gonW O E.L E.n (q.plus 1) = .error 2 := by unfold gonW; rw [hg]
       rw [hgo] at GO
       dsimp only at GO |-
       clear hr h BG hg hgo
       go_enter Tryz.func76, Tryz.ntmps76
       go_wp2_with (first | (go_at_call 98; refine NX.mono ?_; clear NX; rintro en V1 ⟨rfl, hB1⟩; have hq1 := FA.out V1 hB1; obtain ⟨y0, y1, y2, y3, y4, y5⟩ := hq1.cells; have TC := TP.out _ _ hq1; have HQ1 : Hid _ := hq1; clear hq1) | (go_at_call 73; refine TC.mono ?_; clear TC; rintro en V2 ⟨rfl, hB2⟩; have hq2 := HQ1.out.on hB2; obtain ⟨t0, t1, t2, t3, t4, t5, t6⟩ := hq2.w.tops hop; rw [hpr] at t1; have f2 := t6 (r.length * 7 + 2); have hq4 := FB.out _ _ hq2; obtain ⟨u0, u1, u2, u3, u4, u5, u6⟩ := hq4.w.tops rfl; dsimp only at u1 u2; rw [hpr] at u1; obtain ⟨z0, z1, z2, z3, z4, z5⟩ := hq4.cells; have VC := VS.out _ _ hq4; have HQ4 : Hid _ := hq4; clear hq2 hq4) | (go_at_call 122; refine VC.mono ?_; clear VC; rintro en V5 ⟨rfl, hB5⟩; have hq5 := HQ4.out.on hB5; obtain ⟨z05, z15, z25, z35, z45, z55⟩ := hq5.cells; have HQ5 : Hid _ := hq5; clear hq5) | (go_at_call 36; refine (PLU _).mono ?_; rintro en V6 ⟨rfl, hB6⟩; have hq6a := HQ5.out.on hB6; obtain ⟨z06, z16, z26, z36, z46, z56⟩ := hq6a.cells; have hq6 := hq6a.setP (q.plus 1); simp only [Pl.plus] at hq6; have GC := GO.out _ _ hq6; have HQ6 : Hid _ := hq6; clear hq6 hq6a) | (go_at_call 119; refine GC.mono ?_; clear GC; rintro en V7 ⟨hk7, rfl, -⟩))
       go_ret
       exact ⟨HQ6.out.k.trans hk7, rfl⟩
      | some q' =>
       have hgo : gonW O E.L E.n (q.plus 1) = .ok q' := by unfold gonW; rw [hg]
       obtain ⟨r1, r2, r3⟩ := nexW_goes hq1.okL hg
       have hro := r1.okp
       rw [hgo] at GO
       dsimp only at GO |-
       have hsy : Smx { s with p := q', op := { l with nx := 4 } :: r } := hs.setTop (l' := { l with nx := 4 }) hop rfl q'
       have EE : Hid (∀ V, Wk V wb E { s with p := q', op := { l with nx := 4 } :: r } (.slice (some ⟨g, 0, none⟩) (r.length + 1) cap) tv -> Calls Tryz.prog 124 #[(.pointer (some ⟨wb, 0, none⟩))] V fun en w' => en = .returned (.bool (entEnds E.L { s with p := q', op := { l with nx := 4 } :: r } l.cl)) /\ Below V.heap.size V w') := fun V hV => entryEnds_any hV hsy.sml hf hro (l := { l with nx := 4 }) rfl
       cases hee : entEnds E.L { s with p := q', op := { l with nx := 4 } :: r } l.cl with
       | true =>
        rw [hee] at EE
        rw [if_pos rfl]
        have EM : Hid (∀ V, Wk V wb E { s with p := q', op := { l with nx := 4 } :: r } (.slice (some ⟨g, 0, none⟩) (r.length + 1) cap) tv -> Calls Tryz.prog 103 #[(.pointer (some ⟨wb, 0, none⟩)), hs0.v] V fun en w' => (∃ v, en = .returned v) /\ Kee wb V w' /\ ∃ ov' tv', Wk w' wb E (empW O { s with p := q', op := { l with nx := 4 } :: r } hs0) ov' tv') := fun V hV => empty_any LW.t hV hsy.sml hs0
        simp only [Hs.v, hs0] at EM
        clear hr h BG hg hgo
        go_enter Tryz.func76, Tryz.ntmps76
        go_wp2_with (first | (go_at_call 98; refine NX.mono ?_; clear NX; rintro en V1 ⟨rfl, hB1⟩; have hq1 := FA.out V1 hB1; obtain ⟨y0, y1, y2, y3, y4, y5⟩ := hq1.cells; have TC := TP.out _ _ hq1; have HQ1 : Hid _ := hq1; clear hq1) | (go_at_call 73; refine TC.mono ?_; clear TC; rintro en V2 ⟨rfl, hB2⟩; have hq2 := HQ1.out.on hB2; obtain ⟨t0, t1, t2, t3, t4, t5, t6⟩ := hq2.w.tops hop; rw [hpr] at t1; have f2 := t6 (r.length * 7 + 2); have hq4 := FB.out _ _ hq2; obtain ⟨u0, u1, u2, u3, u4, u5, u6⟩ := hq4.w.tops rfl; dsimp only at u1 u2; rw [hpr] at u1; obtain ⟨z0, z1, z2, z3, z4, z5⟩ := hq4.cells; have VC := VS.out _ _ hq4; have HQ4 : Hid _ := hq4; clear hq2 hq4) | (go_at_call 122; refine VC.mono ?_; clear VC; rintro en V5 ⟨rfl, hB5⟩; have hq5 := HQ4.out.on hB5; obtain ⟨z05, z15, z25, z35, z45, z55⟩ := hq5.cells; have HQ5 : Hid _ := hq5; clear hq5) | (go_at_call 36; refine (PLU _).mono ?_; rintro en V6 ⟨rfl, hB6⟩; have hq6a := HQ5.out.on hB6; obtain ⟨z06, z16, z26, z36, z46, z56⟩ := hq6a.cells; have hq6 := hq6a.setP (q.plus 1); simp only [Pl.plus] at hq6; have GC := GO.out _ _ hq6; have HQ6 : Hid _ := hq6; clear hq6 hq6a) | (go_at_call 119; refine GC.mono ?_; clear GC; rintro en V7 ⟨hk7, rfl, hw7⟩; have EC := EE.out V7 hw7; have HK7 : Hid (Kee wb w V7 /\ Wk V7 wb E { s with p := q', op := { l with nx := 4 } :: r } (.slice (some ⟨g, 0, none⟩) (r.length + 1) cap) tv) := ⟨HQ6.out.k.trans hk7, hw7⟩; clear hk7 hw7) | (go_at_call 124; refine EC.mono ?_; clear EC; rintro en V8 ⟨rfl, hB8⟩; have hk8 := HK7.out.1.trans (Kee.of hB8); have hw8 := HK7.out.2.on hB8; have MC := EM.out V8 hw8; clear HK7; have HK7 : Hid _ := And.intro hk8 hw8; clear hk8 hw8) | (go_at_call 103; refine MC.mono ?_; clear MC; rintro en V9 ⟨⟨v9, rfl⟩, hk9, hw9⟩))
        go_ret
        exact ⟨HK7.out.1.trans hk9, rfl, hw9⟩
       | false =>
        rw [hee] at EE
        rw [if_neg (by decide)]
        have BB : Hid (∀ V, Kee wb w V -> Wk V wb E { s with p := q', op := { l with nx := 4 } :: r } (.slice (some ⟨g, 0, none⟩) (r.length + 1) cap) tv -> Calls Tryz.prog 40 #[(.pointer (some ⟨wb, 0, none⟩))] V fun en w' => Post wb E V (begW O E.L E.n E.d E.b { s with p := q', op := { l with nx := 4 } :: r }) en w') := fun V hk hV => BG V _ _ _ (hkb V hk) hV hsy.sml hro
        generalize begW O E.L E.n E.d E.b { s with p := q', op := { l with nx := 4 } :: r } = RR at BB |-
        clear hr h BG hg hgo
        go_enter Tryz.func76, Tryz.ntmps76
        go_wp2_with (first | (go_at_call 98; refine NX.mono ?_; clear NX; rintro en V1 ⟨rfl, hB1⟩; have hq1 := FA.out V1 hB1; obtain ⟨y0, y1, y2, y3, y4, y5⟩ := hq1.cells; have TC := TP.out _ _ hq1; have HQ1 : Hid _ := hq1; clear hq1) | (go_at_call 73; refine TC.mono ?_; clear TC; rintro en V2 ⟨rfl, hB2⟩; have hq2 := HQ1.out.on hB2; obtain ⟨t0, t1, t2, t3, t4, t5, t6⟩ := hq2.w.tops hop; rw [hpr] at t1; have f2 := t6 (r.length * 7 + 2); have hq4 := FB.out _ _ hq2; obtain ⟨u0, u1, u2, u3, u4, u5, u6⟩ := hq4.w.tops rfl; dsimp only at u1 u2; rw [hpr] at u1; obtain ⟨z0, z1, z2, z3, z4, z5⟩ := hq4.cells; have VC := VS.out _ _ hq4; have HQ4 : Hid _ := hq4; clear hq2 hq4) | (go_at_call 122; refine VC.mono ?_; clear VC; rintro en V5 ⟨rfl, hB5⟩; have hq5 := HQ4.out.on hB5; obtain ⟨z05, z15, z25, z35, z45, z55⟩ := hq5.cells; have HQ5 : Hid _ := hq5; clear hq5) | (go_at_call 36; refine (PLU _).mono ?_; rintro en V6 ⟨rfl, hB6⟩; have hq6a := HQ5.out.on hB6; obtain ⟨z06, z16, z26, z36, z46, z56⟩ := hq6a.cells; have hq6 := hq6a.setP (q.plus 1); simp only [Pl.plus] at hq6; have GC := GO.out _ _ hq6; have HQ6 : Hid _ := hq6; clear hq6 hq6a) | (go_at_call 119; refine GC.mono ?_; clear GC; rintro en V7 ⟨hk7, rfl, hw7⟩; have EC := EE.out V7 hw7; have HK7 : Hid (Kee wb w V7 /\ Wk V7 wb E { s with p := q', op := { l with nx := 4 } :: r } (.slice (some ⟨g, 0, none⟩) (r.length + 1) cap) tv) := ⟨HQ6.out.k.trans hk7, hw7⟩; clear hk7 hw7) | (go_at_call 124; refine EC.mono ?_; clear EC; rintro en V8 ⟨rfl, hB8⟩; have hk8 := HK7.out.1.trans (Kee.of hB8); have hw8 := HK7.out.2.on hB8; have MC := BB.out V8 hk8 hw8; clear HK7; have HK7 : Hid _ := And.intro hk8 hw8; clear hk8 hw8) | (go_at_call 40; refine MC.mono ?_; clear MC; rintro en V9 hpo9; have HP9 := hpo9.pre HK7.out.1; obtain ⟨e9, rfl⟩ := hpo9.ret; clear hpo9))
        go_ret
        exact HP9
   | true =>
    have hS : (topS s fun l => { l with nx := if l.pr then 3 else 4 }) = { s with op := { l with nx := 3 } :: r } := by unfold topS; rw [hop]; simp only [hpr]; rfl
    rw [hS]
    have hop2 : ({ s with op := { l with nx := 3 } :: r } : St).op = { l with nx := 3 } :: r := rfl
    have hsx : Smx { s with op := { l with nx := 3 } :: r } := hs.setTop (l' := { l with nx := 3 }) hop rfl s.p
    have FB : Hid (∀ V B, Vq w V wb E s (.slice (some ⟨g, 0, none⟩) (r.length + 1) cap) tv B q -> Vq w (V.setCell ⟨g, r.length * 7 + 2, none⟩ (.int .u8 4)) wb E { s with op := { l with nx := 4 } :: r } (.slice (some ⟨g, 0, none⟩) (r.length + 1) cap) tv B q /\ Vq w ((V.setCell ⟨g, r.length * 7 + 2, none⟩ (.int .u8 4)).setCell ⟨g, r.length * 7 + 2, none⟩ (.int .u8 3)) wb E { s with op := { l with nx := 3 } :: r } (.slice (some ⟨g, 0, none⟩) (r.length + 1) cap) tv B q) := fun V B hV => by
     have a := hV.setL (l' := { l with nx := 4 }) (j := 2) (x := .int .u8 4) hop (by decide) rfl
     exact ⟨a, a.setL (l := { l with nx := 4 }) (l' := { l with nx := 3 }) (j := 2) (x := .int .u8 3) rfl (by decide) rfl⟩
    have VS : Hid (∀ V B, Vq w V wb E { s with op := { l with nx := 3 } :: r } (.slice (some ⟨g, 0, none⟩) (r.length + 1) cap) tv B q -> Calls Tryz.prog 122 #[(.pointer (some ⟨wb, 0, none⟩)), q.v] V fun en w' => en = .returned (.bool (sgnW O E.L s q)) /\ Below V.heap.size V w') := fun V B hV => valueSign_any (s := { s with op := { l with nx := 3 } :: r }) LW.c hV.w hf hqo
    have EM : Hid (∀ V B, Vq w V wb E { s with op := { l with nx := 3 } :: r } (.slice (some ⟨g, 0, none⟩) (r.length + 1) cap) tv B q -> Calls Tryz.prog 103 #[(.pointer (some ⟨wb, 0, none⟩)), hs0.v] V fun en w' => (∃ v, en = .returned v) /\ Kee wb V w' /\ ∃ ov' tv', Wk w' wb E (empW O { s with op := { l with nx := 3 } :: r } hs0) ov' tv') := fun V B hV => empty_any LW.t hV.w hsx.sml hs0
    simp only [Hs.v, hs0] at EM
    cases hsg : sgnW O E.L s q with
    | false =>
     rw [hsg] at VS
     rw [if_pos rfl]
     clear hr h BG
     go_enter Tryz.func76, Tryz.ntmps76
     go_wp2_with (first | (go_at_call 98; refine NX.mono ?_; clear NX; rintro en V1 ⟨rfl, hB1⟩; have hq1 := FA.out V1 hB1; obtain ⟨y0, y1, y2, y3, y4, y5⟩ := hq1.cells; have TC := TP.out _ _ hq1; have HQ1 : Hid _ := hq1; clear hq1) | (go_at_call 73; refine TC.mono ?_; clear TC; rintro en V2 ⟨rfl, hB2⟩; have hq2 := HQ1.out.on hB2; obtain ⟨t0, t1, t2, t3, t4, t5, t6⟩ := hq2.w.tops hop; rw [hpr] at t1; have f2 := t6 (r.length * 7 + 2); obtain ⟨hq3, hq4⟩ := FB.out _ _ hq2; obtain ⟨u0, u1, u2, u3, u4, u5, u6⟩ := hq3.w.tops rfl; dsimp only at u1 u2; rw [hpr] at u1; have f3 := u6 (r.length * 7 + 2); clear hq3; obtain ⟨z0, z1, z2, z3, z4, z5⟩ := hq4.cells; have VC := VS.out _ _ hq4; have HQ4 : Hid _ := hq4; clear hq2 hq4) | (go_at_call 122; refine VC.mono ?_; clear VC; rintro en V5 ⟨rfl, hB5⟩; have hq5 := HQ4.out.on hB5; have EC := EM.out _ _ hq5; clear HQ4; have HQ4 : Hid _ := hq5; clear hq5) | (go_at_call 103; refine EC.mono ?_; clear EC; rintro en V9 ⟨⟨v9, rfl⟩, hk9, hw9⟩))
     go_ret
     exact ⟨HQ4.out.k.trans hk9, rfl, hw9⟩
    | true =>
     rw [hsg] at VS
     rw [if_neg (by decide)]
     have PLU : ∀ V : World, Calls Tryz.prog 36 #[q.v, .int .i64 1] V fun en w' => en = .returned (q.plus 1).v /\ Below V.heap.size V w' := fun V => plus_any q 1 V (by omega)
     simp only [Pl.v] at PLU
     have GO : Hid (∀ V B, Vq w V wb E { s with p := q.plus 1, op := { l with nx := 3 } :: r } (.slice (some ⟨g, 0, none⟩) (r.length + 1) cap) tv B q -> Calls Tryz.prog 119 #[.pointer (some ⟨wb, 0, none⟩)] V fun en w' => Kee wb V w' /\ match gonW O E.L E.n (q.plus 1) with | .ok q' => en = .returned (.int .i64 0) /\ Wk w' wb E { s with p := q', op := { l with nx := 3 } :: r } (.slice (some ⟨g, 0, none⟩) (r.length + 1) cap) tv | .error c => en = .returned (.int .i64 c) /\ c ≠ 0) := fun V B hV => goOn_any (s := { s with p := q.plus 1, op := { l with nx := 3 } :: r }) LW.c LW.l hV.w hf hq1
     clear EM
     cases hg : nexW O E.L E.n (q.plus 1) with
     | error c =>
      have hgo : gonW O E.L E.n (q.plus 1) = .error c := by unfold gonW; rw [hg]
      rw [hgo] at GO
      dsimp only at GO |-
      have h0 : c ≠ 0 := gonW_ne hgo
      have e1 : (c == 0) = false := by rw [beq_eq_false_iff_ne]; exact h0
      have e2 : (c != 0) = true := by simp [h0]
      clear hr h BG hg hgo
      go_enter Tryz.func76, Tryz.ntmps76
      go_wp2_with (first | (go_at_call 98; refine NX.mono ?_; clear NX; rintro en V1 ⟨rfl, hB1⟩; have hq1 := FA.out V1 hB1; obtain ⟨y0, y1, y2, y3, y4, y5⟩ := hq1.cells; have TC := TP.out _ _ hq1; have HQ1 : Hid _ := hq1; clear hq1) | (go_at_call 73; refine TC.mono ?_; clear TC; rintro en V2 ⟨rfl, hB2⟩; have hq2 := HQ1.out.on hB2; obtain ⟨t0, t1, t2, t3, t4, t5, t6⟩ := hq2.w.tops hop; rw [hpr] at t1; have f2 := t6 (r.length * 7 + 2); obtain ⟨hq3, hq4⟩ := FB.out _ _ hq2; obtain ⟨u0, u1, u2, u3, u4, u5, u6⟩ := hq3.w.tops rfl; dsimp only at u1 u2; rw [hpr] at u1; have f3 := u6 (r.length * 7 + 2); clear hq3; obtain ⟨z0, z1, z2, z3, z4, z5⟩ := hq4.cells; have VC := VS.out _ _ hq4; have HQ4 : Hid _ := hq4; clear hq2 hq4) | (go_at_call 122; refine VC.mono ?_; clear VC; rintro en V5 ⟨rfl, hB5⟩; have hq5 := HQ4.out.on hB5; obtain ⟨z05, z15, z25, z35, z45, z55⟩ := hq5.cells; have HQ5 : Hid _ := hq5; clear hq5) | (go_at_call 36; refine (PLU _).mono ?_; rintro en V6 ⟨rfl, hB6⟩; have hq6a := HQ5.out.on hB6; obtain ⟨z06, z16, z26, z36, z46, z56⟩ := hq6a.cells; have hq6 := hq6a.setP (q.plus 1); simp only [Pl.plus] at hq6; have GC := GO.out _ _ hq6; have HQ6 : Hid _ := hq6; clear hq6 hq6a) | (go_at_call 119; refine GC.mono ?_; clear GC; rintro en V7 ⟨hk7, rfl, -⟩))
      go_ret
      exact ⟨HQ6.out.k.trans hk7, rfl⟩
     | ok o =>
      cases o with
      | none =>
       have hgo : gonW O E.L E.n (q.plus 1) = .error 2 := by unfold gonW; rw [hg]
       rw [hgo] at GO
       dsimp only at GO |-
       clear hr h BG hg hgo
       go_enter Tryz.func76, Tryz.ntmps76
       go_wp2_with (first | (go_at_call 98; refine NX.mono ?_; clear NX; rintro en V1 ⟨rfl, hB1⟩; have hq1 := FA.out V1 hB1; obtain ⟨y0, y1, y2, y3, y4, y5⟩ := hq1.cells; have TC := TP.out _ _ hq1; have HQ1 : Hid _ := hq1; clear hq1) | (go_at_call 73; refine TC.mono ?_; clear TC; rintro en V2 ⟨rfl, hB2⟩; have hq2 := HQ1.out.on hB2; obtain ⟨t0, t1, t2, t3, t4, t5, t6⟩ := hq2.w.tops hop; rw [hpr] at t1; have f2 := t6 (r.length * 7 + 2); obtain ⟨hq3, hq4⟩ := FB.out _ _ hq2; obtain ⟨u0, u1, u2, u3, u4, u5, u6⟩ := hq3.w.tops rfl; dsimp only at u1 u2; rw [hpr] at u1; have f3 := u6 (r.length * 7 + 2); clear hq3; obtain ⟨z0, z1, z2, z3, z4, z5⟩ := hq4.cells; have VC := VS.out _ _ hq4; have HQ4 : Hid _ := hq4; clear hq2 hq4) | (go_at_call 122; refine VC.mono ?_; clear VC; rintro en V5 ⟨rfl, hB5⟩; have hq5 := HQ4.out.on hB5; obtain ⟨z05, z15, z25, z35, z45, z55⟩ := hq5.cells; have HQ5 : Hid _ := hq5; clear hq5) | (go_at_call 36; refine (PLU _).mono ?_; rintro en V6 ⟨rfl, hB6⟩; have hq6a := HQ5.out.on hB6; obtain ⟨z06, z16, z26, z36, z46, z56⟩ := hq6a.cells; have hq6 := hq6a.setP (q.plus 1); simp only [Pl.plus] at hq6; have GC := GO.out _ _ hq6; have HQ6 : Hid _ := hq6; clear hq6 hq6a) | (go_at_call 119; refine GC.mono ?_; clear GC; rintro en V7 ⟨hk7, rfl, -⟩))
       go_ret
       exact ⟨HQ6.out.k.trans hk7, rfl⟩
      | some q' =>
       have hgo : gonW O E.L E.n (q.plus 1) = .ok q' := by unfold gonW; rw [hg]
       obtain ⟨r1, r2, r3⟩ := nexW_goes hq1.okL hg
       have hro := r1.okp
       rw [hgo] at GO
       dsimp only at GO |-
       have hsy : Smx { s with p := q', op := { l with nx := 3 } :: r } := hs.setTop (l' := { l with nx := 3 }) hop rfl q'
       have EE : Hid (∀ V, Wk V wb E { s with p := q', op := { l with nx := 3 } :: r } (.slice (some ⟨g, 0, none⟩) (r.length + 1) cap) tv -> Calls Tryz.prog 124 #[(.pointer (some ⟨wb, 0, none⟩))] V fun en w' => en = .returned (.bool (entEnds E.L { s with p := q', op := { l with nx := 3 } :: r } l.cl)) /\ Below V.heap.size V w') := fun V hV => entryEnds_any hV hsy.sml hf hro (l := { l with nx := 3 }) rfl
       cases hee : entEnds E.L { s with p := q', op := { l with nx := 3 } :: r } l.cl with
       | true =>
        rw [hee] at EE
        rw [if_pos rfl]
        have EM : Hid (∀ V, Wk V wb E { s with p := q', op := { l with nx := 3 } :: r } (.slice (some ⟨g, 0, none⟩) (r.length + 1) cap) tv -> Calls Tryz.prog 103 #[(.pointer (some ⟨wb, 0, none⟩)), hs0.v] V fun en w' => (∃ v, en = .returned v) /\ Kee wb V w' /\ ∃ ov' tv', Wk w' wb E (empW O { s with p := q', op := { l with nx := 3 } :: r } hs0) ov' tv') := fun V hV => empty_any LW.t hV hsy.sml hs0
        simp only [Hs.v, hs0] at EM
        clear hr h BG hg hgo
        go_enter Tryz.func76, Tryz.ntmps76
        go_wp2_with (first | (go_at_call 98; refine NX.mono ?_; clear NX; rintro en V1 ⟨rfl, hB1⟩; have hq1 := FA.out V1 hB1; obtain ⟨y0, y1, y2, y3, y4, y5⟩ := hq1.cells; have TC := TP.out _ _ hq1; have HQ1 : Hid _ := hq1; clear hq1) | (go_at_call 73; refine TC.mono ?_; clear TC; rintro en V2 ⟨rfl, hB2⟩; have hq2 := HQ1.out.on hB2; obtain ⟨t0, t1, t2, t3, t4, t5, t6⟩ := hq2.w.tops hop; rw [hpr] at t1; have f2 := t6 (r.length * 7 + 2); obtain ⟨hq3, hq4⟩ := FB.out _ _ hq2; obtain ⟨u0, u1, u2, u3, u4, u5, u6⟩ := hq3.w.tops rfl; dsimp only at u1 u2; rw [hpr] at u1; have f3 := u6 (r.length * 7 + 2); clear hq3; obtain ⟨z0, z1, z2, z3, z4, z5⟩ := hq4.cells; have VC := VS.out _ _ hq4; have HQ4 : Hid _ := hq4; clear hq2 hq4) | (go_at_call 122; refine VC.mono ?_; clear VC; rintro en V5 ⟨rfl, hB5⟩; have hq5 := HQ4.out.on hB5; obtain ⟨z05, z15, z25, z35, z45, z55⟩ := hq5.cells; have HQ5 : Hid _ := hq5; clear hq5) | (go_at_call 36; refine (PLU _).mono ?_; rintro en V6 ⟨rfl, hB6⟩; have hq6a := HQ5.out.on hB6; obtain ⟨z06, z16, z26, z36, z46, z56⟩ := hq6a.cells; have hq6 := hq6a.setP (q.plus 1); simp only [Pl.plus] at hq6; have GC := GO.out _ _ hq6; have HQ6 : Hid _ := hq6; clear hq6 hq6a) | (go_at_call 119; refine GC.mono ?_; clear GC; rintro en V7 ⟨hk7, rfl, hw7⟩; have EC := EE.out V7 hw7; have HK7 : Hid (Kee wb w V7 /\ Wk V7 wb E { s with p := q', op := { l with nx := 3 } :: r } (.slice (some ⟨g, 0, none⟩) (r.length + 1) cap) tv) := ⟨HQ6.out.k.trans hk7, hw7⟩; clear hk7 hw7) | (go_at_call 124; refine EC.mono ?_; clear EC; rintro en V8 ⟨rfl, hB8⟩; have hk8 := HK7.out.1.trans (Kee.of hB8); have hw8 := HK7.out.2.on hB8; have MC := EM.out V8 hw8; clear HK7; have HK7 : Hid _ := And.intro hk8 hw8; clear hk8 hw8) | (go_at_call 103; refine MC.mono ?_; clear MC; rintro en V9 ⟨⟨v9, rfl⟩, hk9, hw9⟩))
        go_ret
        exact ⟨HK7.out.1.trans hk9, rfl, hw9⟩
       | false =>
        rw [hee] at EE
        rw [if_neg (by decide)]
        have BB : Hid (∀ V, Kee wb w V -> Wk V wb E { s with p := q', op := { l with nx := 3 } :: r } (.slice (some ⟨g, 0, none⟩) (r.length + 1) cap) tv -> Calls Tryz.prog 40 #[(.pointer (some ⟨wb, 0, none⟩))] V fun en w' => Post wb E V (begW O E.L E.n E.d E.b { s with p := q', op := { l with nx := 3 } :: r }) en w') := fun V hk hV => BG V _ _ _ (hkb V hk) hV hsy.sml hro
        generalize begW O E.L E.n E.d E.b { s with p := q', op := { l with nx := 3 } :: r } = RR at BB |-
        clear hr h BG hg hgo
        go_enter Tryz.func76, Tryz.ntmps76
        go_wp2_with (first | (go_at_call 98; refine NX.mono ?_; clear NX; rintro en V1 ⟨rfl, hB1⟩; have hq1 := FA.out V1 hB1; obtain ⟨y0, y1, y2, y3, y4, y5⟩ := hq1.cells; have TC := TP.out _ _ hq1; have HQ1 : Hid _ := hq1; clear hq1) | (go_at_call 73; refine TC.mono ?_; clear TC; rintro en V2 ⟨rfl, hB2⟩; have hq2 := HQ1.out.on hB2; obtain ⟨t0, t1, t2, t3, t4, t5, t6⟩ := hq2.w.tops hop; rw [hpr] at t1; have f2 := t6 (r.length * 7 + 2); obtain ⟨hq3, hq4⟩ := FB.out _ _ hq2; obtain ⟨u0, u1, u2, u3, u4, u5, u6⟩ := hq3.w.tops rfl; dsimp only at u1 u2; rw [hpr] at u1; have f3 := u6 (r.length * 7 + 2); clear hq3; obtain ⟨z0, z1, z2, z3, z4, z5⟩ := hq4.cells; have VC := VS.out _ _ hq4; have HQ4 : Hid _ := hq4; clear hq2 hq4) | (go_at_call 122; refine VC.mono ?_; clear VC; rintro en V5 ⟨rfl, hB5⟩; have hq5 := HQ4.out.on hB5; obtain ⟨z05, z15, z25, z35, z45, z55⟩ := hq5.cells; have HQ5 : Hid _ := hq5; clear hq5) | (go_at_call 36; refine (PLU _).mono ?_; rintro en V6 ⟨rfl, hB6⟩; have hq6a := HQ5.out.on hB6; obtain ⟨z06, z16, z26, z36, z46, z56⟩ := hq6a.cells; have hq6 := hq6a.setP (q.plus 1); simp only [Pl.plus] at hq6; have GC := GO.out _ _ hq6; have HQ6 : Hid _ := hq6; clear hq6 hq6a) | (go_at_call 119; refine GC.mono ?_; clear GC; rintro en V7 ⟨hk7, rfl, hw7⟩; have EC := EE.out V7 hw7; have HK7 : Hid (Kee wb w V7 /\ Wk V7 wb E { s with p := q', op := { l with nx := 3 } :: r } (.slice (some ⟨g, 0, none⟩) (r.length + 1) cap) tv) := ⟨HQ6.out.k.trans hk7, hw7⟩; clear hk7 hw7) | (go_at_call 124; refine EC.mono ?_; clear EC; rintro en V8 ⟨rfl, hB8⟩; have hk8 := HK7.out.1.trans (Kee.of hB8); have hw8 := HK7.out.2.on hB8; have MC := BB.out V8 hk8 hw8; clear HK7; have HK7 : Hid _ := And.intro hk8 hw8; clear hk8 hw8) | (go_at_call 40; refine MC.mono ?_; clear MC; rintro en V9 hpo9; have HP9 := hpo9.pre HK7.out.1; obtain ⟨e9, rfl⟩ := hpo9.ret; clear hpo9))
        go_ret
        exact HP9
end
end Go.Proofs.YtipbhdhiklmieaaGreatDoor
