/- What lines.Read keeps between two rounds, and what one line more does to its list. -/
import Derived.Test.YtcijjbnkdjmklaaRws
set_option linter.unusedVariables false
set_option linter.unusedSimpArgs false
namespace Go.Proofs.Ytcijjbnkdjmklaa
open Go.RowKit Go.Shelf
attribute [local go_sem] Oper.semAt_some

set_option maxHeartbeats 1000000 in
theorem pieces_in (n : Nat) (p : Option Addr) (len cap : Nat) (w : World) :
    CallsIn Fence.wide n Try.prog 18 #[.slice p len cap] w fun e w' => e = .returned (.func (.func 29) #[] #[.pointer (some ⟨w.heap.size, 0, none⟩)]) ∧ w' = w.alloc (.cells #[.slice p len cap] 22) := by
  refine callsIn_of_wp Try.func18 rfl trivial ?_ rfl
  simp only [Try.ntmps18, List.size_toArray, List.length_cons, List.length_nil, Nat.reduceAdd, Nat.reduceSub, Array.replicate_succ, Array.replicate_zero, List.push_toArray, List.append_toArray, List.nil_append, List.cons_append]
  gi_wp2
  go_ret
  exact ⟨rfl, rfl⟩

theorem pieces_stops (n : Nat) (hn : 1 ≤ n) (Bb n₀ b o cap : Nat) (p : Option Addr) (t : List Int) (hp : 0 < t.length → p = some ⟨b, o, none⟩) (hl : t.length ≤ cap) (hc : cap ≤ maxLen) (w : World) (hBb : Bb < w.heap.size) (hn₀ : n₀ ≤ w.heap.size)
    (cB : w.cell? ⟨Bb, 0, none⟩ = some (.slice p t.length cap)) (hI : Is w p t) (hb : 0 < t.length → b < n₀) :
    SeqStopsK Fence.wide n Try.prog 29 #[.pointer (some ⟨Bb, 0, none⟩)] (fun x : Pc t => encP b o cap x.1) (Below n₀) (fun ys => ys.map (·.1) = cutsAt t 0) (fun pre => pre.map (·.1) <+: cutsAt t 0) t.length w := fun l J Jx W hW hJ _ hY h0 =>
  pieces1_in n hn l Bb n₀ b o cap p t hp hl hc J Jx W (Nat.le_trans hn₀ hW.size) hJ hY ((hW.cell (p := ⟨Bb, 0, none⟩) hBb).trans cB) (hI.on hW) hb h0

/-- The world in which the loop of Read begins. -/
def w4 (w : World) (q : Option Addr) (n c : Nat) : World :=
  (((w.alloc (.cells #[.slice none 0 0] 24)).alloc (.cells #[.int .i64 0] 25)).alloc (.cells #[.slice none 0 0] 24)).alloc (.cells #[.slice q n c] 22)

theorem w4_size (w : World) (q : Option Addr) (n c : Nat) : (w4 w q n c).heap.size = w.heap.size + 4 := by unfold w4; simp
theorem w4_boxes (w : World) (q : Option Addr) (n c : Nat) :
    Boxed (w4 w q n c) w.heap.size 24 (.slice none 0 0) ∧ Boxed (w4 w q n c) (w.heap.size + 1) 25 (.int .i64 0) ∧ Boxed (w4 w q n c) (w.heap.size + 1 + 1) 24 (.slice none 0 0) ∧
    Boxed (w4 w q n c) (w.heap.size + 1 + 1 + 1) 22 (.slice q n c) := by
  have b1 := Boxed.new w 24 (.slice none 0 0)
  have b2 := Boxed.new (w.alloc (.cells #[.slice none 0 0] 24)) 25 (.int .i64 0)
  have b3 := Boxed.new ((w.alloc (.cells #[.slice none 0 0] 24)).alloc (.cells #[.int .i64 0] 25)) 24 (.slice none 0 0)
  have b4 := Boxed.new (((w.alloc (.cells #[.slice none 0 0] 24)).alloc (.cells #[.int .i64 0] 25)).alloc (.cells #[.slice none 0 0] 24)) 22 (.slice q n c)
  simp only [World.size_alloc] at b2 b3 b4
  exact ⟨((b1.alloc _).alloc _).alloc _, (b2.alloc _).alloc _, b3.alloc _, b4⟩
theorem below2 (w : World) (x y : Obj) : Below w.heap.size w ((w.alloc x).alloc y) := ((Below.refl _ w).alloc (Nat.le_refl _) _).alloc (by simp) _
theorem w4_below (w : World) (q : Option Addr) (n c : Nat) : Below w.heap.size w (w4 w q n c) := by
  unfold w4
  exact (((below2 w _ _).alloc (by simp; omega) _).alloc (by simp; omega) _)

/-- Between two rounds. -/
def Inv (w : World) (t : List Int) (pre : List (Pc t)) (W : World) : Prop :=
  (∃ v, Boxed W (w.heap.size + 1 + 1) 24 v ∧ Rws W (w.heap.size + 4) v (pre.map fun x => lineP (pieceOf t x.1))) ∧
  (∀ x, x ∈ pre → (pieceOf t x.1).any badP = false) ∧ Boxed W w.heap.size 24 (.slice none 0 0) ∧ Boxed W (w.heap.size + 1) 25 (.int .i64 0) ∧ Below w.heap.size w W ∧ w.heap.size + 4 ≤ W.heap.size
/-- Behind a round that has left. -/
def Out (w : World) (t : List Int) (c : Code) (pre : List (Pc t)) (W : World) : Prop :=
  (c = .ret ∧ ∃ x, x ∈ pre ∧ (pieceOf t x.1).any badP = true) ∧ Boxed W w.heap.size 24 (.slice none 0 0) ∧ Boxed W (w.heap.size + 1) 25 (.int .i64 4) ∧ Below w.heap.size w W

theorem rws_own {β : Type} (B base : Nat) (f : β → List (Nat × List Int)) : Own (fun s W => ∃ v, Boxed W B 24 v ∧ Rws W base v (f s)) := by
  rintro s X Y row ⟨v, hv, hr⟩ hg hrow
  have hk : ∀ g : Nat, (∃ cur e f, X.heap[g]? = some (Obj.cells cur e f)) → Y.heap[g]? = X.heap[g]? := by
    rintro g ⟨cur, e, f, hc⟩
    refine hg.block g (Array.getElem?_eq_some_iff.1 hc).1 fun e' => ?_
    obtain ⟨o, ho, hcl⟩ := hrow g e'.symm
    rw [hc] at ho; cases ho; cases hcl
  exact ⟨v, (hk B ⟨_, _, _, hv⟩).trans hv, hr.blocks fun g _ h => hk g h⟩

theorem Inv_own (w : World) (t : List Int) (B : Nat) (hB : w.heap.size ≤ B) : OwnFrom B (Inv w t) :=
  OwnFrom.and (Own.from (rws_own _ _ _) _) (OwnFrom.and (ownFrom_pure _ _) (OwnFrom.and (Own.from (boxed_own _ _ _) _) (OwnFrom.and (Own.from (boxed_own _ _ _) _) (OwnFrom.and (ownFrom_below (Nat.le_refl _) hB) (fun s W W' row hs hg _ => Nat.le_trans hs hg.size)))))
theorem Out_own (w : World) (t : List Int) (c : Code) (B : Nat) (hB : w.heap.size ≤ B) : OwnFrom B (Out w t c) :=
  OwnFrom.and (ownFrom_pure _ _) (OwnFrom.and (Own.from (boxed_own _ _ _) _) (OwnFrom.and (Own.from (boxed_own _ _ _) _) (ownFrom_below (Nat.le_refl _) hB)))

theorem piece_len {t : List Int} (x : Pc t) : (pieceOf t x.1).length = x.1.2 := by
  obtain ⟨⟨k, s⟩, h1, h2⟩ := x
  simp at h1 h2
  simp [pieceOf]
  omega
theorem piece_is {t : List Int} (x : Pc t) {W : World} {b o : Nat} (h : Is W (some ⟨b, o, none⟩) t) : Is W (some ⟨b, o + x.1.1, none⟩) (pieceOf t x.1) := (h.drop x.1.1).take x.1.2

theorem contains_in (n l : Nat) {t : List Int} (x : Pc t) {W : World} {b o : Nat} (cap : Nat) (hm : t.length ≤ 1099511627776) (h : Is W (some ⟨b, o, none⟩) t) :
    CallsIn (Fence.wide.inRound l) n Try.prog 19 #[.slice (some ⟨b, o + x.1.1, none⟩) x.1.2 (cap - x.1.1), .func (.func 20) #[] #[]] W fun e w' => e = .returned (.bool ((pieceOf t x.1).any badP)) ∧ w' = W := by
  have hx := x.2
  have := contains_any (some ⟨b, o + x.1.1, none⟩) (pieceOf t x.1) (cap - x.1.1) W (by rw [piece_len]; omega) (piece_is x h)
  rw [piece_len] at this
  exact (callsIn_wide.2 this).inRound l

theorem lineOf_in (n l : Nat) {t : List Int} (x : Pc t) {W : World} {b o : Nat} (cap : Nat) (hl : t.length ≤ cap) (hm : t.length ≤ 1099511627776) (h : Is W (some ⟨b, o, none⟩) t) :
    CallsIn (Fence.wide.inRound l) n Try.prog 21 #[.slice (some ⟨b, o + x.1.1, none⟩) x.1.2 (cap - x.1.1)] W fun e w' => ∃ v, e = .returned (.agg #[.int .i64 (lineP (pieceOf t x.1)).1, v]) ∧ Copied W (lineP (pieceOf t x.1)).2 w' v := by
  have hx := x.2
  have := lineOf_any (some ⟨b, o + x.1.1, none⟩) (pieceOf t x.1) (cap - x.1.1) W (by rw [piece_len]; omega) (by rw [piece_len]; omega) (piece_is x h)
  rw [piece_len] at this
  exact (callsIn_wide.2 this).inRound l

/-- An append whose run is known, as one step of a region that draws its order. -/
theorem stepIn_append_run {F : Fence} {n : Nat} {P : Program} {w w' : World} {ops : Array Oper} {o : Oper} {a : Act} {K : Act → World → Prop} {Q : Exit → Act → World → Prop} {E : Prop} (hgd : o.guard = none) (s x : Operand) (t : TypeId)
    (ho : o.op = .call { callee := .builtin .append, args := #[s, x], argTypes := #[t, t] }) {u y v : Value} (hs : a.eval s = u) (hx : a.eval x = y)
    (hrun : (Builtin.append_ #[t, t] o.type #[u, y]).run P w = .ok v w') (h : K (a.put o.dst v) w') : if Region.wanted o (yielded ops a.tmps) = true then Oper.wpIn F n P o a w K Q else E := by
  have hw : Region.wanted o (yielded ops a.tmps) = true := by simp [Region.wanted, hgd]
  rw [if_pos hw]
  unfold Oper.wpIn
  refine ⟨?_, ?_⟩
  · simp [Oper.about, ho, resolve, Target.leads, Sem.run_pure]
  · rw [Oper.semAt_plain F _ _ (by rw [ho]; intro c hc'; cases hc')]
    simp [execOp, ho, resolve, invoke, builtin, hs, hx, hrun, Result.andThen]
    exact h

/-- One line more behind a row of lines. -/
theorem append_line {W W1 : World} {base : Nat} {v u : Value} {xs : List (Nat × List Int)} {x : Nat × List Int} (h : Rws W base v xs) (hb : base ≤ W.heap.size) (hc : Copied W x.2 W1 u) (hn : xs.length < 1099511627776) :
    ∃ v' w1, (Builtin.append_ #[24, 24] 24 #[v, .slice (some ⟨W1.heap.size, 0, none⟩) 1 1]).run Try.prog (W1.alloc (.cells #[.int .i64 x.1, u] 34)) = .ok v' w1 ∧ Rws w1 base v' (xs ++ [x]) ∧
      (∀ g, g < W.heap.size → some g ≠ v.ownBlock → w1.heap[g]? = W.heap[g]?) ∧ Below base W w1 ∧ (∃ g k c, v' = .slice (some ⟨g, 0, none⟩) k c) ∧
      (∀ g, v.ownBlock = some g → base ≤ g ∧ ∃ cur, W.heap[g]? = some (.cells cur 34 (0, 0))) := by
  obtain ⟨i0, hi, hz0, hz1, hz2⟩ := info_parts Try.info34
  obtain ⟨cells, h1, h2⟩ := h
  have hs := hc.2.size
  have h1' : (W1.alloc (.cells #[.int .i64 x.1, u] 34)).ownsRow base 34 2 v xs.length cells :=
    ownsRow_block h1 fun g _ _ ⟨cur, f, hh⟩ => by
      have hlt := (Array.getElem?_eq_some_iff.1 hh).1
      rw [Below.heap_alloc W1 _ g (by omega), hc.2.block g hlt]
  have hu : u.oneCell' = true := by
    obtain ⟨a, k, c, rfl⟩ := ownsRow_form hc.1
    rfl
  obtain ⟨v', w1, hrun, ho, hg, -⟩ := run_append_own (P := Try.prog) (W1.alloc (.cells #[.int .i64 x.1, u] 34)) base 24 24 34 i0 (.agg #[.int .i64 0, .slice none 0 0]) 2 32 Try.underlying24 hi hz0 hz1 hz2 rfl (by decide)
    v xs.length cells h1' ⟨W1.heap.size, 0, none⟩ 1 1 [.int .i64 x.1, u] rfl (fun j y hy => by
      rw [add_plain, Nat.zero_add]
      have : (W1.alloc (.cells #[.int .i64 x.1, u] 34)).heap[W1.heap.size]? = some (.cells #[.int .i64 x.1, u] 34) := World.alloc_heap_new W1 _
      generalize W1.alloc (.cells #[.int .i64 x.1, u] 34) = Z at this ⊢
      simp [World.cell?, this]
      simpa using hy) (by intro y hy; rcases List.mem_cons.1 hy with rfl | hy; rfl; simp at hy; rw [hy]; exact hu) (by unfold maxLen; omega) (by omega) (by simp; omega)
  have hold : ∀ g, g < W.heap.size → some g ≠ v.ownBlock → w1.heap[g]? = W.heap[g]? := by
    intro g hlt hne
    rw [hg.block g (by simp; omega) hne, Below.heap_alloc W1 _ g (by omega), hc.2.block g hlt]
  have hv34 : ∀ g, v.ownBlock = some g → base ≤ g ∧ ∃ cur, W.heap[g]? = some (.cells cur 34 (0, 0)) := by
    intro g e
    obtain ⟨-, ⟨rfl, -⟩ | ⟨g', cap, cur, rfl, hb', hh, -⟩⟩ := h1
    · cases e
    · cases e; exact ⟨hb', cur, hh⟩
  refine ⟨v', w1, hrun, rws_step h1 h2 hb hc hg ho, hold, ?_, (by obtain ⟨g, c, e⟩ := ownsRow_succ ho; exact ⟨g, _, c, e⟩), hv34⟩
  exact ((hc.2.mono hb).alloc (by omega) _).grown hg (by simp; omega) (fun j e => (hv34 j e).1)

theorem rws_drew {W : World} {base : Nat} {v : Value} {xs : List (Nat × List Int)} (h : Rws W base v xs) : Rws W.drew base v xs := h.on ((Below.refl _ W).drew)

/-- What a round that goes on leaves. -/
theorem read_step {w W w1 : World} {t : List Int} {pre : List (Pc t)} {x : Pc t} {v v' : Value} (B : Nat) (hv : Boxed W (w.heap.size + 1 + 1) 24 v) (hall : ∀ x, x ∈ pre → (pieceOf t x.1).any badP = false)
    (bR : Boxed W w.heap.size 24 (.slice none 0 0)) (bE : Boxed W (w.heap.size + 1) 25 (.int .i64 0)) (hB : Below w.heap.size w W) (hsW : w.heap.size + 4 ≤ W.heap.size) (hbad : (pieceOf t x.1).any badP = false)
    (hR : Rws w1 (w.heap.size + 4) v' ((pre.map fun x => lineP (pieceOf t x.1)) ++ [lineP (pieceOf t x.1)]))
    (hold : ∀ g, g < W.drew.heap.size → some g ≠ v.ownBlock → w1.heap[g]? = W.drew.heap[g]?) (hbel : Below (w.heap.size + 4) W.drew w1)
    (hv34 : ∀ g, v.ownBlock = some g → w.heap.size + 4 ≤ g ∧ ∃ cur, W.drew.heap[g]? = some (.cells cur 34 (0, 0))) :
    Boxed w1 (w.heap.size + 1 + 1) 24 v ∧ Hid (KeepsFrom B W (w1.setCell ⟨w.heap.size + 1 + 1, 0, none⟩ v') ∧ Below w.heap.size W (w1.setCell ⟨w.heap.size + 1 + 1, 0, none⟩ v') ∧ Inv w t (pre ++ [x]) (w1.setCell ⟨w.heap.size + 1 + 1, 0, none⟩ v')) := by
  have hne : ∀ g, g < w.heap.size + 4 → some g ≠ v.ownBlock := fun g hg e => by have := (hv34 g e.symm).1; omega
  have hv1 : Boxed w1 (w.heap.size + 1 + 1) 24 v := (hold _ hv.lt (hne _ (by omega))).trans hv
  have bR1 : Boxed w1 w.heap.size 24 (.slice none 0 0) := (hold _ bR.lt (hne _ (by omega))).trans bR
  have bE1 : Boxed w1 (w.heap.size + 1) 25 (.int .i64 0) := (hold _ bE.lt (hne _ (by omega))).trans bE
  have hb1 : Below w.heap.size W w1 := ((Below.refl _ W).drew).trans (hbel.mono (by omega))
  have hb2 : Below w.heap.size W (w1.setCell ⟨w.heap.size + 1 + 1, 0, none⟩ v') := hb1.setCell (p := ⟨w.heap.size + 1 + 1, 0, none⟩) (by show w.heap.size ≤ w.heap.size + 1 + 1; omega) _
  have hk1 : KeepsOthers W w1 := ⟨hb1.size, fun k o hk ho => by
    refine (hold k (Array.getElem?_eq_some_iff.1 hk).1 fun e => ?_).trans hk
    obtain ⟨-, cur, hc⟩ := hv34 k e.symm
    have hk' : W.drew.heap[k]? = some o := hk
    rw [hc] at hk'
    cases hk'
    cases ho⟩
  refine ⟨hv1, (hk1.trans (KeepsOthers.setCell _ _ _)).from B, hb2, ⟨v', hv1.set v', ?_⟩, ?_, bR1.other (by omega) _, bE1.other (by omega) _, hB.trans hb2, Nat.le_trans hsW hb2.size⟩
  · rw [List.map_append]
    exact hR.blocks fun g hg _ => Deep.blk_setCell_other _ _ _ _ (by show g ≠ w.heap.size + 1 + 1; omega)
  · intro y hy
    rcases List.mem_append.1 hy with hy | hy
    · exact hall y hy
    · simp at hy; rw [hy]; exact hbad
end Go.Proofs.Ytcijjbnkdjmklaa
