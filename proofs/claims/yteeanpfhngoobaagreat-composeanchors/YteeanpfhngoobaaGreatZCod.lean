/- The program's Right, over the events that are told. -/
import Derived.Test.YteeanpfhngoobaaGreatZDep
import Derived.Test.YteeanpfhngoobaaGreatZCln
set_option linter.unusedVariables false
set_option linter.unusedSimpArgs false
namespace Go.Proofs.YteeanpfhngoobaaGreat
open Go.RowKit Go.Shelf
attribute [local go_sem] Oper.semAt_some

theorem boxed_below {A C : World} {b : Nat} {ty : TypeId} {v : Value} (hv : Boxed A b ty v) (h : Below A.heap.size A C) : Boxed C b ty v :=
  (h.block b (Array.getElem?_eq_some_iff.1 (show A.heap[b]? = _ from hv)).1).trans hv
theorem boxed_own' {W W' : World} {b : Nat} {ty : TypeId} {v : Value} {row : Option Nat} (hv : Boxed W b ty v) (hgr : W.grownBy W' row) {B : Nat} (hr : ∀ r, row = some r → B ≤ r ∧ ∃ o : Obj, W.heap[r]? = some o ∧ o.isCells = false) : Boxed W' b ty v := by
  refine hv.kept hgr fun e => ?_
  obtain ⟨-, o, ho, hc⟩ := hr _ e.symm
  rw [show W.heap[b]? = _ from hv] at ho; cases ho; cases hc
theorem boxed_put {W : World} {b D : Nat} {ty : TypeId} {v : Value} {ds : Option (List Deferred)} (h : Boxed W b ty v) (hK : W.heap[D]? = some (.deferred ds)) {o : Obj} : Boxed (W.putObj D o) b ty v := by
  refine (World.putObj_heap_other (fun e => ?_)).trans h
  subst e
  rw [show W.heap[b]? = _ from h] at hK
  cases hK

/-- What holds while events are told: Bx of the boxes between w and n1. -/
structure Ib (w : World) (n1 : Nat) (Bx : Nat → World → Prop) (X : Nat → Prop) (i : Nat) (W : World) : Prop where
  sz : n1 ≤ W.heap.size
  bel : Below w.heap.size w W
  own : ∀ b, X b → n1 ≤ b ∧ b < W.heap.size
  bx : Bx i W
theorem Ib.abo {w : World} {n1 : Nat} {Bx : Nat → World → Prop} (hn : w.heap.size ≤ n1) (hs : ∀ i (A B : World), (∀ k, k < n1 → B.heap[k]? = A.heap[k]?) → Bx i A → Bx i B) : Abo n1 (Ib w n1 Bx) := by
  refine ⟨fun X i W W' row h hg hr => ?_, fun X i W W' row h hg hr => ?_, fun X Y i W h hY => ⟨h.sz, h.bel, fun b hb => h.own b (hY b hb), h.bx⟩, fun X i W b h hb => (h.own b hb).2⟩
  · have hlow : ∀ r, row = some r → n1 ≤ r := fun r e => by
      rcases hr r e with h' | ⟨h', -⟩
      · exact (h.own r h').1
      · exact h'
    have hsame : ∀ k, k < n1 → W'.heap[k]? = W.heap[k]? := fun k hk => hg.block k (by have := h.sz; omega) (fun e => by have := hlow k e.symm; omega)
    exact ⟨Nat.le_trans h.sz hg.size, h.bel.grown hg h.bel.size (fun k e => by have := hlow k e; omega), fun b hb => ⟨(h.own b hb).1, Nat.lt_of_lt_of_le (h.own b hb).2 hg.size⟩, hs i W W' hsame h.bx⟩
  · have hlow : ∀ r, row = some r → n1 ≤ r := fun r e => (h.own r (hr r e)).1
    have hsame : ∀ k, k < n1 → W'.heap[k]? = W.heap[k]? := fun k hk => hg.block k (by have := h.sz; omega) (fun e => by have := hlow k e.symm; omega)
    refine ⟨Nat.le_trans h.sz hg.size, h.bel.grown hg h.bel.size (fun k e => by have := hlow k e; omega), fun b hb => ?_, hs i W W' hsame h.bx⟩
    rcases hb with hb | ⟨h1, h2⟩
    · exact ⟨(h.own b hb).1, Nat.lt_of_lt_of_le (h.own b hb).2 hg.size⟩
    · exact ⟨by have := h.sz; omega, h2⟩
/-- A round that makes something anew and then writes one box. -/
theorem Ib.set {w : World} {n1 : Nat} {Bx : Nat → World → Prop} {X R : Nat → Prop} {i j : Nat} {W W2 : World} (h : Ib w n1 Bx X i W) (hb2 : Below W.heap.size W W2) (c : Nat) (hc : w.heap.size ≤ c) (hc1 : c < n1) (hRc : ¬ R c) (hR : ∀ b, R b → b < n1)
    {ty : TypeId} {v0 : Value} (hv : Boxed W c ty v0) (v : Value) (hbx : Boxed (W2.setCell ⟨c, 0, none⟩ v) c ty v → Bx j (W2.setCell ⟨c, 0, none⟩ v)) :
    KeepsFrom n1 W (W2.setCell ⟨c, 0, none⟩ v) ∧ Kq (orX R X) W (W2.setCell ⟨c, 0, none⟩ v) ∧ Ib w n1 Bx X j (W2.setCell ⟨c, 0, none⟩ v) := by
  have hoth : ∀ k, k ≠ c → k < W.heap.size → (W2.setCell ⟨c, 0, none⟩ v).heap[k]? = W.heap[k]? := fun k hk hl => by
    rw [Deep.blk_setCell_other _ _ _ _ (by dsimp only; exact hk)]
    exact hb2.block k hl
  have hsz : (W2.setCell ⟨c, 0, none⟩ v).heap.size = W2.heap.size := by simp [World.setCell]
  have hv2 := (boxed_below hv hb2).set v
  refine ⟨⟨by rw [hsz]; exact hb2.size, fun k o hk ho _ => (hoth k (by omega) (Array.getElem?_eq_some_iff.1 ho).1).trans ho⟩, ⟨by rw [hsz]; exact hb2.size, fun b hb => ?_⟩, by rw [hsz]; exact Nat.le_trans h.sz hb2.size, ?_, fun b hb => ⟨(h.own b hb).1, by rw [hsz]; exact Nat.lt_of_lt_of_le (h.own b hb).2 hb2.size⟩, hbx hv2⟩
  · rcases hb with hb | hb
    · exact hoth b (fun e => hRc (e ▸ hb)) (by have := hR b hb; have := h.sz; omega)
    · exact hoth b (by have := (h.own b hb).1; omega) (h.own b hb).2
  · exact (h.bel.trans (hb2.mono h.bel.size)).setCell hc _

theorem deep_in (n : Nat) (p : Option Addr) (len cap fr : Nat) (w : World) :
    CallsIn Fence.wide n Tryz.prog 34 #[.slice p len cap, .int .u8 (fr : Nat)] w fun e w' => e = .returned (.func (.func 61) #[] #[.pointer (some ⟨w.heap.size + 1, 0, none⟩), .pointer (some ⟨w.heap.size, 0, none⟩)]) ∧ w' = (w.alloc (.cells #[.slice p len cap] 22)).alloc (.cells #[.int .u8 (fr : Nat)] 90) := by
  refine callsIn_of_wp Tryz.func34 rfl trivial ?_ rfl
  simp only [Tryz.ntmps34, List.size_toArray, List.length_cons, List.length_nil, Nat.reduceAdd, Nat.reduceSub, Array.replicate_succ, Array.replicate_zero, List.push_toArray, List.append_toArray, List.nil_append, List.cons_append]
  gi_wp2
  go_ret
  exact ⟨rfl, rfl⟩
theorem deep_seq (n Bf Bl cap fr : Nat) (q : Option Addr) (L : List Ev) (hl : L.length ≤ 1048576) (hfr : fr ≤ 2) (w : World) (c1 : w.cell? ⟨Bf, 0, none⟩ = some (.int .u8 (fr : Nat))) (c2 : w.cell? ⟨Bl, 0, none⟩ = some (.slice q L.length cap)) (hE : Es w q L) :
    SeqO n Tryz.prog 61 #[.pointer (some ⟨Bf, 0, none⟩), .pointer (some ⟨Bl, 0, none⟩)] encE (told [fr] L) (RX q L Bl) w := fun l J Jx W hW _ hJ hY h0 =>
  deep1_in n l Bf Bl cap fr q L hl hfr J Jx W ((hW.cell (p := ⟨Bf, 0, none⟩) (World.block_lt_of_cell? w _ c1)).trans c1) ((hW.cell (p := ⟨Bl, 0, none⟩) (World.block_lt_of_cell? w _ c2)).trans c2) (hE.on hW)
    (fun b hb => by
      rcases hb with rfl | ⟨hl', a, ha, rfl⟩
      · exact Nat.lt_of_lt_of_le (World.block_lt_of_cell? w ⟨b, 0, none⟩ c2) hW.size
      · exact Nat.lt_of_lt_of_le (hE.lt a ha hl') hW.size) hJ hY h0

theorem lastK_at : ∀ (L : List Ev) (x : Ev), L[L.length - 1]? = some x → lastK L = x.k := by
  intro L
  induction L with
  | nil => intro x h; cases h
  | cons a L ih =>
    intro x h
    cases L with
    | nil => cases h; rfl
    | cons b L => exact ih x (by simpa using h)
theorem right_off {L : List Ev} {i : Nat} {x : Ev × Nat} (h : (told [0] L)[i]? = some x) (hc : cleanP x.1 = false) : rightP L = false := by
  unfold rightP
  rw [Bool.and_eq_false_iff]
  left
  rw [List.all_eq_false]
  exact ⟨x, List.mem_of_getElem? h, by rw [hc]; simp⟩
theorem right_on {L : List Ev} (h : ∀ x ∈ told [0] L, cleanP x.1 = true) : rightP L = decide ((told [0] L).length = L.length ∧ (L = [] ∨ lastK L = 2)) := by
  unfold rightP
  rw [List.all_eq_true.2 h, Bool.true_and]

/-- The boxes of Right. -/
def BxR (s : Nat) (T : List (Ev × Nat)) (i : Nat) (W : World) : Prop := i ≤ T.length ∧ Boxed W s 4 (.bool false) ∧ Boxed W (s + 1) 3 (.int .i64 (i : Nat)) ∧ ∀ x ∈ T.take i, cleanP x.1 = true
def BxX (w : World) (V : Bool) (c : Code) (i : Nat) (W : World) : Prop := c = .ret ∧ Boxed W w.heap.size 4 (.bool false) ∧ Below w.heap.size w W ∧ V = false
theorem BxX.own {w : World} {V : Bool} (c : Code) {B : Nat} (hB : w.heap.size ≤ B) : OwnFrom B (BxX w V c) := by
  rintro s W W' row ⟨h1, h2, h3, h4⟩ hgr hr
  exact ⟨h1, boxed_own' h2 hgr hr, h3.grown hgr h3.size (fun k e => by have := (hr k e).1; omega), h4⟩
theorem results_bool {fn : Func} {p : Tmp} (h : fn.results = #[.cell p 4]) {tmps : Array Value} {W : World} {b0 : Nat} {z : Bool} (hp : tmps.getD p undef = .pointer (some ⟨b0, 0, none⟩))
    (h0 : Boxed W b0 4 (.bool z)) : (results fn tmps).run Tryz.prog W = .ok (.bool z) W := by
  have hp' : tmps[p]?.getD undef = .pointer (some ⟨b0, 0, none⟩) := by simpa using hp
  have c0 := h0.cell
  simp [results, h, hp', asAddr, go_sem, c0]
theorem results_int {fn : Func} {p : Tmp} (h : fn.results = #[.cell p 3]) {tmps : Array Value} {W : World} {b0 : Nat} {z : Int} (hp : tmps.getD p undef = .pointer (some ⟨b0, 0, none⟩))
    (h0 : Boxed W b0 3 (.int .i64 z)) : (results fn tmps).run Tryz.prog W = .ok (.int .i64 z) W := by
  have hp' : tmps[p]?.getD undef = .pointer (some ⟨b0, 0, none⟩) := by simpa using hp
  have c0 := h0.cell
  simp [results, h, hp', asAddr, go_sem, c0]

set_option maxRecDepth 100000 in
set_option maxHeartbeats 4000000 in
theorem Right_any (q : Option Addr) (L : List Ev) (n c : Nat) (w : World) (hn : n = L.length) (hl : L.length ≤ 1048576) (hE : Es w q L) :
    Calls Tryz.prog 19 #[.slice q n c] w fun e w' => e = .returned (.bool (rightP L)) ∧ Below w.heap.size w w' := by
  subst hn
  obtain ⟨V, hV⟩ : ∃ V, rightP L = V := ⟨_, rfl⟩
  rw [hV]
  have HV : Hid (rightP L = V) := hV
  clear hV
  have hl2 : (L.length : Int) ≤ 1048576 := by omega
  refine (callsIn_wide (n := 9)).1 ?_
  have b0 := ((Boxed.new w 4 (.bool false)).alloc (.cells #[.int .i64 0] 3)).alloc (.cells #[.slice q L.length c] 22)
  have b0 := b0.alloc (.cells #[.int .u8 ((0 : Nat) : Int)] 90)
  have b1 := ((Boxed.new (w.alloc (.cells #[.bool false] 4)) 3 (.int .i64 0)).alloc (.cells #[.slice q L.length c] 22)).alloc (.cells #[.int .u8 ((0 : Nat) : Int)] 90)
  have b2 := (Boxed.new ((w.alloc (.cells #[.bool false] 4)).alloc (.cells #[.int .i64 0] 3)) 22 (.slice q L.length c)).alloc (.cells #[.int .u8 ((0 : Nat) : Int)] 90)
  have b3 := Boxed.new (((w.alloc (.cells #[.bool false] 4)).alloc (.cells #[.int .i64 0] 3)).alloc (.cells #[.slice q L.length c] 22)) 90 (.int .u8 ((0 : Nat) : Int))
  have hB3 := ((((Below.refl w.heap.size w).alloc (Nat.le_refl _) (.cells #[.bool false] 4)).alloc (by simp) (.cells #[.int .i64 0] 3)).alloc (by simp; omega) (.cells #[.slice q L.length c] 22)).alloc (by simp; omega) (.cells #[.int .u8 ((0 : Nat) : Int)] 90)
  have hs3 : ((((w.alloc (.cells #[.bool false] 4)).alloc (.cells #[.int .i64 0] 3)).alloc (.cells #[.slice q L.length c] 22)).alloc (.cells #[.int .u8 ((0 : Nat) : Int)] 90)).heap.size = w.heap.size + 4 := by simp
  have SG := fun m => deep_in m q L.length c 0 ((w.alloc (.cells #[.bool false] 4)).alloc (.cells #[.int .i64 0] 3))
  have hsz2 : ((w.alloc (.cells #[.bool false] 4)).alloc (.cells #[.int .i64 0] 3)).heap.size = w.heap.size + 1 + 1 := by simp
  rw [hsz2] at SG
  simp only [World.size_alloc] at b1 b2 b3
  have hE2 := hE.on hB3
  have hne : ∀ b, RX q L (w.heap.size + 2) b → b ≠ w.heap.size ∧ b ≠ w.heap.size + 1 ∧ b < w.heap.size + 4 := by
    rintro b (h | ⟨h1, a, h2, rfl⟩)
    · omega
    · have := hE.lt a h2 h1; omega
  have SQ := deep_seq (9 - 1) (w.heap.size + 1 + 1 + 1) (w.heap.size + 1 + 1) c 0 q L hl (by omega) _ b3.cell b2.cell hE2
  obtain ⟨T, hT⟩ : ∃ T, told [0] L = T := ⟨_, rfl⟩
  rw [hT] at SQ
  have HT : Hid (told [0] L = T) := hT
  clear hT
  refine callsIn_of_wp_marks Tryz.func19 rfl trivial ?_ rfl
  simp only [Tryz.ntmps19, List.size_toArray, List.length_cons, List.length_nil, Nat.reduceAdd, Nat.reduceSub, Array.replicate_succ, Array.replicate_zero, List.push_toArray, List.append_toArray, List.nil_append, List.cons_append]
  clear hsz2 b3
  gi_wp2_with (first | (refine ⟨trivial, ?_⟩; gi_at_call 34; refine (SG _).mono ?_; rintro e W2 ⟨rfl, rfl⟩))
  generalize ((((w.alloc (.cells #[.bool false] 4)).alloc (.cells #[.int .i64 0] 3)).alloc (.cells #[.slice q L.length c] 22)).alloc (.cells #[.int .u8 ((0 : Nat) : Int)] 90)) = W3 at b0 b1 b2 hB3 hs3 hE2 SQ ⊢
  clear SG
  refine wpIn_rangeFuncO (gf := 61) (lb := #[.pointer (some ⟨w.heap.size + 1 + 1 + 1, 0, none⟩), .pointer (some ⟨w.heap.size + 1 + 1, 0, none⟩)]) rfl (enters_of Tryz.func61 (by kernel_rfl) rfl) SQ (fun b hb => by have := hne b hb; omega) (Below.refl _ _) (fun _ => rfl)
    (Ib w (w.heap.size + 4) (BxR w.heap.size T)) (BxX w V) (by rw [hs3]; exact Ib.abo (by omega) (fun i A B h hb => ⟨hb.1, (h _ (by omega)).trans hb.2.1, (h _ (by omega)).trans hb.2.2.1, hb.2.2.2⟩)) (fun cd => BxX.own cd (by omega)) ⟨by omega, hB3, (fun b h => h.elim), Nat.zero_le _, b0, b1, fun x hx => by simp at hx⟩
    (fun x W => W.alloc (.cells #[.int .i64 x.1.k, .string x.1.tx, .string x.1.tg, .string x.1.an, .int .i64 x.1.st, .bool x.1.fl] 46)) (fun x W => World.grownBy_alloc W _ none)
    (fun x b => { tmps := #[.slice q L.length c, undef, .pointer (some ⟨w.heap.size, 0, none⟩), .pointer (some ⟨w.heap.size + 1, 0, none⟩), .pointer (some ⟨b, 0, none⟩), .slice q L.length c, .func (.func 61) #[] #[.pointer (some ⟨w.heap.size + 1 + 1 + 1, 0, none⟩), .pointer (some ⟨w.heap.size + 1 + 1, 0, none⟩)], x.1.v, .int .i64 (x.2 : Nat), undef, undef, undef, undef, undef, undef, undef, undef, undef, undef, undef, undef, undef, undef, undef, undef, undef, undef, undef, undef, undef, undef], defers := [] }) ?assign ?body ?done ?stop
  case assign =>
    intro m l x W K hK
    simp only [encE, Ev.v] at hK ⊢
    gi_wp2
    exact hK
  case body =>
    clear SQ b0 b1 b2 hE2 hE
    rintro m l X i x W0 W hx hI hl1 hl2' hoth
    obtain ⟨hiT, r0, r1, hcl⟩ := hI.bx
    have hil : i < T.length := (List.getElem?_eq_some_iff.1 hx).1
    have hTl : T.length ≤ L.length := by rw [← HT.out]; exact told_le L [0]
    have hW0 : W0.heap.size ≠ l := by omega
    have a6 : At6 W W0.heap.size 0 x.1 := (At6.new W0 x.1).kept (hoth _ hW0)
    have CL := fun (m : Nat) => (callsIn_wide (n := m)).2 (clean_any x.1 W)
    obtain ⟨e0, e1, e2, e3, e4, e5⟩ := a6
    have f0 := r0.cell
    have f1 := r0.frozen
    have hi3 : (i : Int) ≤ 1048576 := by omega
    cases hcx : cleanP x.1 with
    | true =>
      rw [hcx] at CL
      have HP : Hid (∀ W2 : World, Below W.heap.size W W2 → W2.cell? ⟨w.heap.size + 1, 0, none⟩ = some (.int .i64 (i : Nat)) ∧ W2.frozen? ⟨w.heap.size + 1, 0, none⟩ = false ∧ (KeepsFrom W3.heap.size W (W2.setCell ⟨w.heap.size + 1, 0, none⟩ (.int .i64 ((i + 1 : Nat) : Int))) ∧ Kq (orX (RX q L (w.heap.size + 1 + 1)) X) W (W2.setCell ⟨w.heap.size + 1, 0, none⟩ (.int .i64 ((i + 1 : Nat) : Int))) ∧ Ib w (w.heap.size + 4) (BxR w.heap.size T) X (i + 1) (W2.setCell ⟨w.heap.size + 1, 0, none⟩ (.int .i64 ((i + 1 : Nat) : Int))))) := fun W2 h2 => by
        have g1 := boxed_below r1 h2
        refine ⟨g1.cell, g1.frozen, ?_⟩
        rw [hs3]
        refine hI.set h2 (w.heap.size + 1) (by omega) (by omega) (fun h => (hne _ h).2.1 rfl) (fun b h => (hne b h).2.2) r1 _ (fun hbx => ⟨by omega, ?_, hbx, fun y hy => ?_⟩)
        · refine (Deep.blk_setCell_other _ _ _ _ ?_).trans (boxed_below r0 h2)
          show w.heap.size ≠ w.heap.size + 1
          omega
        · rw [List.take_add_one, hx] at hy
          simp at hy
          rcases hy with hy | rfl
          · exact hcl y hy
          · exact hcx
      have ec : ((i + 1 : Nat) : Int) = (i : Int) + 1 := by omega
      rw [ec] at HP
      clear hoth hI r0 r1 hcl hcx hx f0 f1
      obtain ⟨⟨xk, tx, tg, an, xs, fl⟩, dp⟩ := x
      dsimp only [Ev.v] at *
      gi_wp2
      first | refine ⟨trivial, (fun h => by cases h), ?_⟩ | refine ⟨trivial, ?_⟩
      gi_at_call 35
      refine (CL _).mono ?_
      rintro e W2 ⟨rfl, h2⟩
      obtain ⟨k1, k2, k3⟩ := HP.out W2 h2
      have HK3 : Hid _ := k3
      clear k3 HP CL h2
      gi_wp2
      exact HK3.out
    | false =>
      rw [hcx] at CL
      have hVf : V = false := by rw [← HV.out]; exact right_off (by rw [HT.out]; exact hx) hcx
      have HP : Hid (∀ W2 : World, Below W.heap.size W W2 → W2.cell? ⟨w.heap.size, 0, none⟩ = some (.bool false) ∧ W2.frozen? ⟨w.heap.size, 0, none⟩ = false ∧ (KeepsFrom W3.heap.size W (W2.setCell ⟨w.heap.size, 0, none⟩ (.bool false)) ∧ BxX w V .ret (i + 1) (W2.setCell ⟨w.heap.size, 0, none⟩ (.bool false)))) := fun W2 h2 => by
        have g0 := boxed_below r0 h2
        refine ⟨g0.cell, g0.frozen, ?_, rfl, g0.set _, (hI.bel.trans (h2.mono hI.bel.size)).setCell (Nat.le_refl _) _, hVf⟩
        refine ⟨by simp [World.setCell]; exact h2.size, fun k o hk ho hc => ?_⟩
        rw [Deep.blk_setCell_other _ _ _ _ (by dsimp only; omega)]
        exact (h2.block k (Array.getElem?_eq_some_iff.1 ho).1).trans ho
      clear hoth hI r0 r1 hcl hcx hx f0 f1 hVf
      obtain ⟨⟨xk, tx, tg, an, xs, fl⟩, dp⟩ := x
      dsimp only [Ev.v] at *
      gi_wp2
      first | refine ⟨trivial, (fun h => by cases h), ?_⟩ | refine ⟨trivial, ?_⟩
      gi_at_call 35
      refine (CL _).mono ?_
      rintro e W2 ⟨rfl, h2⟩
      obtain ⟨k1, k2, k3⟩ := HP.out W2 h2
      have HK3 : Hid _ := k3
      clear k3 HP CL h2
      gi_wp2
      exact HK3.out
  case done =>
    clear SQ b0 b1 b2 hE2
    rintro D X W hD hI hK
    obtain ⟨hiT, r0, r1, hcl⟩ := hI.bx
    rw [List.take_of_length_le (Nat.le_refl _)] at hcl
    have hR := right_on (L := L) (by rw [HT.out]; exact hcl)
    rw [HT.out, HV.out] at hR
    have hTl : T.length ≤ L.length := by rw [← HT.out]; exact told_le L [0]
    have hTi : (T.length : Int) ≤ 1048576 := by omega
    have hEW := hE.on hI.bel
    have f0 := r0.cell
    have f1 := r0.frozen
    have f2 := r1.cell
    have hbel := hI.bel
    have FIN : Hid (∀ z : Bool, z = V → Boxed ((W.setCell ⟨w.heap.size, 0, none⟩ (.bool z)).putObj D (.deferred none)) w.heap.size 4 (.bool V) ∧ (W.setCell ⟨w.heap.size, 0, none⟩ (.bool z)).heap[D]? = some (.deferred (some [])) ∧ Below w.heap.size w ((W.setCell ⟨w.heap.size, 0, none⟩ (.bool z)).putObj D (.deferred none))) := fun z hz => by
      subst hz
      have hDn : D ≠ w.heap.size := by omega
      have hK2 : (W.setCell ⟨w.heap.size, 0, none⟩ (.bool z)).heap[D]? = some (.deferred (some [])) := by rw [Deep.blk_setCell_other _ _ _ _ (by dsimp only; exact hDn)]; exact hK
      exact ⟨boxed_put (r0.set _) hK2, hK2, (hbel.setCell (Nat.le_refl _) _).trans (belowK_b (w := w) (Nat.le_refl _) _ D _ _ (by omega) hK2 rfl rfl)⟩
    clear hI r0 r1 hcl hK
    by_cases hTL : T.length = L.length
    · rw [hTL] at f2
      by_cases h0 : L.length = 0
      · have hVt : V = true := by rw [hR, decide_eq_true_iff]; exact ⟨hTL, .inl (List.eq_nil_of_length_eq_zero h0)⟩
        subst hVt
        rw [h0] at f2 ⊢
        have e0 : ((0 : Nat) : Int) = 0 := rfl
        rw [e0] at f2
        clear hEW hR hE
        gi_wp2
        obtain ⟨F1, F2, F3⟩ := FIN.out true rfl
        refine ⟨by simp, .inl ⟨_, _, rfl, run_takeDeferred F2, ?_⟩⟩
        refine ⟨_, results_bool rfl rfl F1, ?_⟩
        exact ⟨rfl, F3⟩
      · obtain ⟨b, o, hq, hc⟩ := hEW.at (by omega)
        obtain ⟨x, hx⟩ : ∃ x, L[L.length - 1]? = some x := ⟨_, List.getElem?_eq_getElem (by omega)⟩
        have c0 := (hc _ x hx).c0
        have hVk : V = decide (x.k = 2) := by
          rw [hR]
          refine decide_eq_decide.2 ⟨fun h => ?_, fun h => ⟨hTL, .inr (by rw [lastK_at L x hx]; exact h)⟩⟩
          rcases h.2 with h1 | h1
          · rw [h1] at h0; simp at h0
          · rw [← lastK_at L x hx]; exact h1
        subst hq
        obtain ⟨d, hd⟩ : ∃ d, L.length = d + 1 := ⟨L.length - 1, by omega⟩
        have hd2 : (d : Int) ≤ 1048576 := by omega
        rw [hd, Nat.add_sub_cancel] at c0
        rw [hd] at f2 ⊢
        have e0 : ((d + 1 : Nat) : Int) = (d : Int) + 1 := by omega
        rw [e0] at f2
        have e1 : ((d : Int) + 1 == 0) = false := by simp; omega
        have e2 : ¬ ((d : Int) + 1 = 0) := by omega
        generalize x.k = xk at *
        clear hEW hR hE hc hx hne hl hl2 HT HV hTL hTl hTi h0 hd hs3 hB3
        by_cases h2 : xk = 2
        · have hVt : V = true := by rw [hVk, decide_eq_true_iff]; exact h2
          subst h2
          subst hVt
          clear hVk
          gi_wp2
          obtain ⟨F1, F2, F3⟩ := FIN.out true rfl
          refine ⟨by simp, .inl ⟨_, _, rfl, run_takeDeferred F2, ?_⟩⟩
          refine ⟨_, results_bool rfl rfl F1, ?_⟩
          exact ⟨rfl, F3⟩
        · have hVt : V = false := by rw [hVk, decide_eq_false_iff_not]; exact h2
          have e3 : (xk == 2) = false := by simp [h2]
          subst hVt
          clear hVk
          gi_wp2
          obtain ⟨F1, F2, F3⟩ := FIN.out false rfl
          refine ⟨by simp, .inl ⟨_, _, rfl, run_takeDeferred F2, ?_⟩⟩
          refine ⟨_, results_bool rfl rfl F1, ?_⟩
          exact ⟨rfl, F3⟩
    · have hVt : V = false := by rw [hR, decide_eq_false_iff_not]; exact fun h => hTL h.1
      have e1 : ((T.length : Int) == (L.length : Int)) = false := by simp; omega
      have e2 : ¬ ((T.length : Int) = (L.length : Int)) := by omega
      subst hVt
      clear hEW hR hE
      gi_wp2
      obtain ⟨F1, F2, F3⟩ := FIN.out false rfl
      refine ⟨by simp, .inl ⟨_, _, rfl, run_takeDeferred F2, ?_⟩⟩
      refine ⟨_, results_bool rfl rfl F1, ?_⟩
      exact ⟨rfl, F3⟩
  case stop =>
    rintro D cd i W hD ⟨rfl, r0, hB, rfl⟩ hK
    gi_wp2
    refine ⟨by simp, .inl ⟨_, _, rfl, run_takeDeferred hK, ?_⟩⟩
    refine ⟨_, results_bool rfl rfl (boxed_put r0 hK), ?_⟩
    exact ⟨rfl, hB.trans (belowK_b (w := w) (Nat.le_refl _) W D _ _ (by omega) hK rfl rfl)⟩
end Go.Proofs.YteeanpfhngoobaaGreat
