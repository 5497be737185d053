/- isWords: whether a text is words alone. slices.Collect of a text's code points. isWritten: whether props.Tag tells all of a text. -/
import Derived.Test.YtmeojnpehmhmoaaPts
import Derived.Test.YtmeojnpehmhmoaaSml
import Derived.Deep.AppendLies
import Derived.Test.YtmeojnpehmhmoaaTag
set_option linter.all false
namespace Go.Proofs.Ytmeojnpehmhmoaa
open Go.RowKit Go.Shelf Go.Lib
attribute [local go_sem] Oper.semAt_some

theorem boxed_ownS {W W' : World} {b : Nat} {ty : TypeId} {v : Value} {row : Option Nat} (hv : Boxed W b ty v) (hgr : W.grownBy W' row) {B : Nat} (hr : ∀ r, row = some r → B ≤ r ∧ ∃ o : Obj, W.heap[r]? = some o ∧ o.isCells = false) : Boxed W' b ty v := by
  refine hv.kept hgr fun e => ?_
  obtain ⟨-, o, ho, hc⟩ := hr _ e.symm
  rw [show W.heap[b]? = _ from hv] at ho; cases ho; cases hc
theorem keeps_belowS {B : Nat} {A C : World} (h : Below A.heap.size A C) : KeepsFrom B A C := ⟨h.size, fun k o hk ho hc => (h.block k (Array.getElem?_eq_some_iff.1 ho).1).trans ho⟩
theorem set1S {w W : World} {B b : Nat} {ty : TypeId} {v0 : Value} (b0 : Boxed W b ty v0) (hB : b < B) (hw : w.heap.size ≤ b) (hb : Below w.heap.size w W) (x : Value) :
    Boxed (W.setCell ⟨b, 0, none⟩ x) b ty x ∧ KeepsFrom B W (W.setCell ⟨b, 0, none⟩ x) ∧ Below w.heap.size w (W.setCell ⟨b, 0, none⟩ x) := by
  refine ⟨b0.set x, ⟨by simp [World.setCell], fun k o hk ho hc => ?_⟩, hb.setCell hw _⟩
  rw [Deep.blk_setCell_other _ _ _ _ (by dsimp only; omega)]
  exact ho
theorem boxed_putS {W : World} {b D : Nat} {ty : TypeId} {v : Value} {ds : Option (List Deferred)} (h : Boxed W b ty v) (hK : W.heap[D]? = some (.deferred ds)) {o : Obj} : Boxed (W.putObj D o) b ty v := by
  refine (World.putObj_heap_other (fun e => ?_)).trans h
  subst e
  rw [show W.heap[b]? = _ from h] at hK
  cases hK
/-- One result in a box. -/
theorem results_boxB {fn : Func} {p : Tmp} (h : fn.results = #[.cell p 4]) {tmps : Array Value} {W : World} {b0 : Nat} {x : Bool} (hp : tmps.getD p undef = .pointer (some ⟨b0, 0, none⟩))
    (h0 : Boxed W b0 4 (.bool x)) : (results fn tmps).run Try.prog W = .ok (.bool x) W := by
  have hp' : tmps[p]?.getD undef = .pointer (some ⟨b0, 0, none⟩) := by simpa using hp
  have c0 := h0.cell
  simp [results, h, hp', asAddr, go_sem, c0]

structure Iw (w : World) (T : List Int) (i : Nat) (W : World) : Prop where
  e : ∀ j x, j < i → T[j]? = some x → wordP x = true
  b0 : Boxed W w.heap.size 4 (.bool false)
  below : Below w.heap.size w W
  room : w.heap.size + 2 ≤ W.heap.size
def Iwx (w : World) (T : List Int) (c : Code) (i : Nat) (W : World) : Prop :=
  c = .ret ∧ T.all wordP = false ∧ Boxed W w.heap.size 4 (.bool false) ∧ Below w.heap.size w W
theorem Iw.own {w : World} {T : List Int} {B : Nat} (hB : w.heap.size ≤ B) : OwnFrom B (Iw w T) := by
  rintro s W W' row ⟨h1, h2, h4, h5⟩ hgr hr
  have h6 := h4.grown hgr h4.size (fun k e => by have := (hr k e).1; omega)
  exact ⟨h1, boxed_ownS h2 hgr hr, h6, Nat.le_trans h5 hgr.size⟩
theorem Iwx.own {w : World} {T : List Int} (c : Code) {B : Nat} (hB : w.heap.size ≤ B) : OwnFrom B (Iwx w T c) := by
  rintro s W W' row ⟨h1, h2, h3, h4⟩ hgr hr
  exact ⟨h1, h2, boxed_ownS h3 hgr hr, h4.grown hgr h4.size (fun k e => by have := (hr k e).1; omega)⟩

def wordsB (s : ByteArray) : Bool := (rnS s 0).all wordP && !(s.toList.isEmpty)

set_option maxRecDepth 100000 in
set_option maxHeartbeats 1600000 in
theorem isWords_any (s : ByteArray) (w : World) :
    Calls Try.prog 26 #[.string s] w fun e w' => e = .returned (.bool (wordsB s)) ∧ Below w.heap.size w w' := by
  refine (callsIn_wide (n := 9)).1 ?_
  have b0 := Boxed.new w 4 (.bool false)
  have b2 := Boxed.new (w.alloc (.cells #[.bool false] 4)) 9 (.string s)
  have hs1 : (w.alloc (.cells #[.bool false] 4)).heap.size = w.heap.size + 1 := by simp
  rw [hs1] at b2
  have hB1 := (Below.refl w.heap.size w).alloc (Nat.le_refl _) (.cells #[.bool false] 4)
  have hB2 := hB1.alloc (by simp) (.cells #[.string s] 9)
  have hs3 : ((w.alloc (.cells #[.bool false] 4)).alloc (.cells #[.string s] 9)).heap.size = w.heap.size + 1 + 1 := by simp
  have c0 := b0.alloc (.cells #[.string s] 9)
  have SG := fun m => points_in m s (w.alloc (.cells #[.bool false] 4))
  rw [hs1] at SG
  obtain ⟨T, hT⟩ : ∃ T, rnS s 0 = T := ⟨_, rfl⟩
  unfold wordsB
  rw [hT]
  have HT : Hid (rnS s 0 = T) := hT
  clear hT
  refine callsIn_of_wp_marks Try.func26 rfl trivial ?_ rfl
  simp only [Try.ntmps26, List.size_toArray, List.length_cons, List.length_nil, Nat.reduceAdd, Nat.reduceSub, Array.replicate_succ, Array.replicate_zero, List.push_toArray, List.append_toArray, List.nil_append, List.cons_append]
  clear b0 hs1
  gi_wp2_with (first | (refine ⟨trivial, ?_⟩; gi_at_call 40; refine (SG _).mono ?_; rintro e W2 ⟨rfl, rfl⟩))
  generalize ((w.alloc (.cells #[.bool false] 4)).alloc (.cells #[.string s] 9)) = W3 at b2 hB2 hs3 c0 ⊢
  clear SG hB1
  have SQ := points_seq (9 - 1) (w.heap.size + 1) s W3 b2.cell
  rw [HT.out] at SQ
  clear HT
  refine wpIn_rangeFuncS (gf := 66) (lb := #[.pointer (some ⟨w.heap.size + 1, 0, none⟩)]) rfl (enters_of Try.func66 (by kernel_rfl) rfl) SQ (Below.refl _ _) (fun _ => rfl)
    (Iw w T) (Iwx w T) (Iw.own (by omega)) (fun c => Iwx.own c (by omega)) ⟨fun j x hj => by omega, c0, hB2, by omega⟩
    (fun x => { tmps := #[.string s, undef, .pointer (some ⟨w.heap.size, 0, none⟩), .int .i64 x, .string s, .func (.func 66) #[] #[.pointer (some ⟨w.heap.size + 1, 0, none⟩)], .int .i64 x, undef, undef, undef, undef, undef], defers := [] }) ?assign ?body ?done ?stop
  case assign =>
    intro m l x W K hK
    gi_wp2
    exact hK
  case body =>
    clear SQ c0 b2
    rintro m l i x W hx ⟨he, b0, hbW, hrm⟩
    have WD := fun m => CallsIn.inRound l ((callsIn_wide (n := m)).2 (word_any x W))
    have f0 := b0.cell
    have f1 := b0.frozen
    cases hv : wordP x with
    | false =>
      rw [hv] at WD
      obtain ⟨P1, P2, P3⟩ := set1S (w := w) (B := W3.heap.size) b0 (by omega) (by omega) hbW (.bool false)
      have HA : Hid (T.all wordP = false) := by
        show T.all wordP = false
        rw [List.all_eq_false]
        exact ⟨x, List.mem_of_getElem? hx, by rw [hv]; decide⟩
      clear hv he hx
      gi_wp2
      refine ⟨trivial, (fun h => by cases h), ?_⟩
      gi_at_call 44
      refine (WD _).mono ?_
      rintro e W2 ⟨rfl, rfl⟩
      gi_wp2
      exact ⟨P2, rfl, HA.out, P1, P3⟩
    | true =>
      rw [hv] at WD
      have HN : Hid (∀ j y, j < i + 1 → T[j]? = some y → wordP y = true) := fun j y hj hy => by
        by_cases e : j = i
        · subst e; rw [hx] at hy; cases hy; exact hv
        · exact he j y (by omega) hy
      clear hv he hx
      gi_wp2
      refine ⟨trivial, (fun h => by cases h), ?_⟩
      gi_at_call 44
      refine (WD _).mono ?_
      rintro e W2 ⟨rfl, rfl⟩
      gi_wp2
      exact ⟨keeps_belowS (Below.refl _ _), trivial, HN.out, b0, hbW, hrm⟩
  case done =>
    rintro D W hD ⟨he, b1, hbW, hrm⟩ hK
    have HE : Hid (T.all wordP = true) := by
      show T.all wordP = true
      rw [List.all_eq_true]
      intro x hx
      obtain ⟨j, hj⟩ := List.mem_iff_getElem?.1 hx
      exact he j x (List.getElem?_eq_some_iff.1 hj).1 hj
    obtain ⟨P1, P2, P3⟩ := set1S (w := w) (B := W3.heap.size) b1 (by omega) (by omega) hbW (.bool (!(s.toList.isEmpty)))
    have f0 := b1.cell
    have f1 := b1.frozen
    have hK2 := P2.same D _ hD hK rfl
    clear he SQ c0 b2
    gi_wp2
    refine ⟨by simp, .inl ⟨_, _, rfl, run_takeDeferred hK2, ?_⟩⟩
    refine ⟨_, results_boxB rfl rfl (boxed_putS P1 hK2), ?_⟩
    rw [HE.out]
    exact ⟨rfl, P3.trans (belowK_b (w := w) (Nat.le_refl _) _ D _ _ (by omega) hK2 rfl rfl)⟩
  case stop =>
    rintro D c' i W hD ⟨rfl, hA, b1, hbW⟩ hK
    have HA : Hid (T.all wordP = false) := hA
    clear SQ c0 b2 hA
    gi_wp2
    refine ⟨by simp, .inl ⟨_, _, rfl, run_takeDeferred hK, ?_⟩⟩
    refine ⟨_, results_boxB rfl rfl (boxed_putS b1 hK), ?_⟩
    rw [HA.out]
    exact ⟨rfl, hbW.trans (belowK_b (w := w) (Nat.le_refl _) W D _ _ (by omega) hK rfl rfl)⟩
end Go.Proofs.Ytmeojnpehmhmoaa
set_option linter.all false
namespace Go.Proofs.Ytmeojnpehmhmoaa
open Go.RowKit Go.Shelf Go.Lib
attribute [local go_sem] Oper.semAt_some

/-- A slice of the call's own that holds these ints. -/
abbrev OwnsI (w : World) (base : Nat) (v : Value) (t : List Int) : Prop := w.ownsRow base 3 1 v t.length (t.map (.int .i64))

theorem push1I {w : World} {base : Nat} {v : Value} {xs : List Int} (h : OwnsI w base v xs) (hb : base ≤ w.heap.size) (hn : xs.length + 1 ≤ 8796093022208) (x : Int) :
    ∃ g cap w1, (Builtin.append_ #[57, 57] 57 #[v, .slice (some ⟨w.heap.size, 0, none⟩) 1 1]).run Try.prog (w.alloc (.cells #[.int .i64 x] 3)) = .ok (.slice (some ⟨g, 0, none⟩) (xs.length + 1) cap) w1 ∧
      OwnsI w1 base (.slice (some ⟨g, 0, none⟩) (xs.length + 1) cap) (xs ++ [x]) ∧ (w.alloc (.cells #[.int .i64 x] 3)).grownBy w1 v.ownBlock ∧ (v.ownBlock = some g ∨ g = w.heap.size + 1) := by
  obtain ⟨i0, hi, hz0, hz1, hz2⟩ := info_parts Try.info3
  obtain ⟨g, cap, w1, h1, h2, h3, h4, -⟩ := run_append_lies (P := Try.prog) (w.alloc (.cells #[.int .i64 x] 3)) 57 57 base 3 i0 (.int .i64 0) 1 8 Try.underlying57 hi hz0 hz1 hz2 rfl (by decide)
    v xs.length (xs.map (.int .i64)) (h.alloc _) ⟨w.heap.size, 0, none⟩ 1 1 [.int .i64 x] rfl (cell_one_new _ _ _) (by simp [Value.oneCell']) (by decide) (by unfold maxLen; omega) (by omega) (by simp; omega) (w.heap.size + 1) (by simp)
  refine ⟨g, cap, w1, h1, ?_, h3, h4⟩
  unfold OwnsI
  rw [List.map_append, List.length_append]
  exact h2

/-- An append whose run is known, inside a fence. -/
theorem wpListIn_append_runS {F : Fence} {n : Nat} {P : Program} {w w' : World} {ops : Array Oper} {rest : List Oper} {o : Oper} {a : Act} {Q : Exit → Act → World → Prop} (hgd : o.guard = none) (s x : Operand) (t : TypeId)
    (ho : o.op = .call { callee := .builtin .append, args := #[s, x], argTypes := #[t, t] }) {u y v : Value} (hs : a.eval s = u) (hx : a.eval x = y)
    (hrun : (Builtin.append_ #[t, t] o.type #[u, y]).run P w = .ok v w') (h : wpListIn F n P ops Q rest (a.put o.dst v) w') : wpListIn F n P ops Q (o :: rest) a w := by
  refine wpListIn_plain hgd fun K hK' => ?_
  unfold Oper.wpIn
  refine ⟨?_, ?_⟩
  · simp [Oper.about, ho, resolve, Target.leads, Sem.run_pure]
  · rw [Oper.semAt_plain F _ _ (by rw [ho]; intro c hc'; cases hc')]
    simp [execOp, ho, resolve, invoke, builtin, hs, hx, hrun, Result.andThen]
    exact hK' _ _ h

theorem ownsI_cells {w : World} {base : Nat} {v : Value} {t : List Int} (h : OwnsI w base v t) {g : Nat} (hg : v.ownBlock = some g) : base ≤ g ∧ ∃ cur, w.heap[g]? = some (.cells cur 3 (0, 0)) := by
  rcases h.2 with ⟨rfl, -⟩ | ⟨g', cap, cur, rfl, hb, hh, -⟩
  · cases hg
  · cases hg; exact ⟨hb, cur, hh⟩

def Ia (w : World) (T : List Int) (i : Nat) (W : World) : Prop :=
  ∃ v, Boxed W w.heap.size 57 v ∧ OwnsI W w.heap.size v (T.take i) ∧ Below w.heap.size w W
theorem Ia.own {w : World} {T : List Int} (B : Nat) (hB : w.heap.size ≤ B) : OwnFrom B (Ia w T) := by
  rintro s W W' row ⟨v, hv, ho, hb⟩ hgr hr
  refine ⟨v, boxed_ownS hv hgr hr, ho.kept hgr ?_, hb.grown hgr hb.size ?_⟩
  · cases hvb : v.ownBlock with
    | none => exact .inl rfl
    | some g =>
      refine .inr fun e => ?_
      obtain ⟨-, o, ho', hc⟩ := hr g e.symm
      obtain ⟨-, cur, hcur⟩ := ownsI_cells ho hvb
      rw [hcur] at ho'; cases ho'; cases hc
  · intro k e
    have := (hr k e).1
    omega
theorem Ia_step {w W w1 : World} {B : Nat} {T : List Int} {i : Nat} {x : Int} {v : Value} {g cap : Nat} (hx : T[i]? = some x) (hv : Boxed W w.heap.size 57 v) (ho : OwnsI W w.heap.size v (T.take i)) (hBl : Below w.heap.size w W)
    (h2 : OwnsI w1 w.heap.size (.slice (some ⟨g, 0, none⟩) ((T.take i).length + 1) cap) (T.take i ++ [x])) (h3 : (W.alloc (.cells #[.int .i64 x] 3)).grownBy w1 v.ownBlock) :
    Boxed w1 w.heap.size 57 v ∧ Hid (postT B (fun _ _ => True) (Ia w T) (fun _ _ _ => False) (i + 1) W .normal { tmps := #[], defers := [] } (w1.setCell ⟨w.heap.size, 0, none⟩ (.slice (some ⟨g, 0, none⟩) ((T.take i).length + 1) cap))) := by
  have hsz := hBl.size
  obtain ⟨hv1, hv2, hr2, hk2, hb2⟩ := hv.appended (by decide) ho (by omega) (by omega) h2 h3
  have htk : T.take i ++ [x] = T.take (i + 1) := by rw [List.take_add_one, hx]; simp
  exact ⟨hv1, hk2.from B, trivial, _, hv2, htk ▸ hr2, hBl.trans hb2⟩

set_option maxRecDepth 100000 in
set_option maxHeartbeats 1600000 in
theorem appendSeq_in (n : Nat) (hn : 1 ≤ n) (Bc : Nat) (s : ByteArray) (w : World) (c1 : w.cell? ⟨Bc, 0, none⟩ = some (.string s)) (hl : s.size ≤ 1000000) :
    CallsIn Fence.wide n Try.prog 65 #[.slice none 0 0, .func (.func 66) #[] #[.pointer (some ⟨Bc, 0, none⟩)]] w fun e w' => ∃ v, e = .returned v ∧ OwnsI w' w.heap.size v (rnS s 0) ∧ Below w.heap.size w w' := by
  have hBc := World.block_lt_of_cell? w _ c1
  dsimp only at hBc
  have hTl : (rnS s 0).length ≤ 1000000 := Nat.le_trans (rnS_len s _ 0 (Nat.le_refl _)) (by omega)
  have hb0 := Boxed.new w 57 (.slice none 0 0)
  have hB0 : Below w.heap.size w (w.alloc (.cells #[.slice none 0 0] 57)) := (Below.refl _ w).alloc (Nat.le_refl _) _
  have hs0 : (w.alloc (.cells #[.slice none 0 0] 57)).heap.size = w.heap.size + 1 := by simp
  have SQ := points_seq (n - 1) Bc s (w.alloc (.cells #[.slice none 0 0] 57)) ((hB0.cell (p := ⟨Bc, 0, none⟩) hBc).trans c1)
  generalize rnS s 0 = T at *
  have ho0 : OwnsI (w.alloc (.cells #[.slice none 0 0] 57)) w.heap.size (.slice none 0 0) (T.take 0) := ⟨rfl, .inl ⟨rfl, rfl⟩⟩
  refine callsIn_of_wp_marks Try.func65 rfl trivial ?_ rfl
  simp only [Try.ntmps65, List.size_toArray, List.length_cons, List.length_nil, Nat.reduceAdd, Nat.reduceSub, Array.replicate_succ, Array.replicate_zero, List.push_toArray, List.append_toArray, List.nil_append, List.cons_append]
  gi_wp2
  generalize w.alloc (.cells #[.slice none 0 0] 57) = W0 at hb0 hB0 hs0 SQ ho0 ⊢
  refine wpIn_rangeFuncS (gf := 66) (lb := #[.pointer (some ⟨Bc, 0, none⟩)]) rfl (enters_of Try.func66 (by kernel_rfl) rfl) SQ (Below.refl _ _) (fun _ => rfl)
    (Ia w T) (fun _ _ _ => False) (Ia.own _ (by omega)) (fun _ _ _ _ _ h => h.elim)
    ⟨_, hb0, ho0, hB0⟩
    (fun x => { tmps := #[.slice none 0 0, .func (.func 66) #[] #[.pointer (some ⟨Bc, 0, none⟩)], .pointer (some ⟨w.heap.size, 0, none⟩), undef, .slice none 0 0, .int .i64 x, .func (.func 66) #[] #[.pointer (some ⟨Bc, 0, none⟩)], .int .i64 x, undef, undef, undef, undef, undef], defers := [] }) ?assign ?body ?done ?stop
  case assign =>
    intro m l x W K hK
    gi_wp2
    exact hK
  case body =>
    rintro m l i x W hx ⟨v, hv, hoi, hBl⟩
    have hcl := hv.cell
    obtain ⟨g, cap, w1, hrun, h2, h3, h4⟩ := push1I hoi (by have := hBl.size; omega) (by rw [List.length_take]; omega) x
    obtain ⟨hv1, HF⟩ := Ia_step (B := W0.heap.size) hx hv hoi hBl h2 h3
    have hc1 := hv1.cell
    have hf1 := hv1.frozen
    obtain ⟨va, vk, vc, rfl⟩ := ownsRow_form hoi
    clear SQ hx h2 h3 h4
    generalize (List.take i T).length + 1 = kk at hrun HF
    gi_wp2_with (first | (gi_at_builtin; refine wpListIn_append_runS rfl _ _ 57 rfl rfl rfl hrun ?_))
    exact HF.out
  case done =>
    rintro D W hD ⟨v, hv, hoi, hBl⟩ hK
    rw [List.take_length] at hoi
    obtain ⟨va, vk, vc, rfl⟩ := ownsRow_form hoi
    have hcl := hv.cell
    clear SQ
    gi_wp2
    refine ⟨by simp, .inl ⟨_, _, rfl, run_takeDeferred hK, ?_⟩⟩
    refine ⟨_, results_tmp rfl _ _ _, _, rfl, ?_, ?_⟩
    · exact ownsRow_putObj hoi _ hK rfl
    · exact hBl.trans (belowK_b (w := w) (Nat.le_refl _) W D _ _ (by omega) hK rfl rfl)
  case stop =>
    rintro D c' i W hD h hK
    exact h.elim

set_option maxHeartbeats 1000000 in
theorem collect_any (Bc : Nat) (s : ByteArray) (w : World) (c1 : w.cell? ⟨Bc, 0, none⟩ = some (.string s)) (hl : s.size ≤ 1000000) :
    Calls Try.prog 39 #[.func (.func 66) #[] #[.pointer (some ⟨Bc, 0, none⟩)]] w fun e w' => ∃ v, e = .returned v ∧ OwnsI w' w.heap.size v (rnS s 0) ∧ Below w.heap.size w w' := by
  have H := (callsIn_wide (n := 9)).1 (appendSeq_in 9 (by decide) Bc s w c1 hl)
  generalize rnS s 0 = T at H ⊢
  go_enter Try.func39, Try.ntmps39
  go_wp2_with (go_at_call 65; refine H.mono ?_; rintro e w' ⟨v, rfl, h1, h2⟩)
  go_ret
  exact ⟨_, rfl, h1, h2⟩
theorem points_any (s : ByteArray) (w : World) :
    Calls Try.prog 40 #[.string s] w fun e w' => e = .returned (.func (.func 66) #[] #[.pointer (some ⟨w.heap.size, 0, none⟩)]) ∧ w' = w.alloc (.cells #[.string s] 9) :=
  (callsIn_wide (n := 9)).1 (points_in 9 s w)
end Go.Proofs.Ytmeojnpehmhmoaa
set_option linter.all false
set_option maxRecDepth 100000
namespace Go.Proofs.Ytmeojnpehmhmoaa
open Go.RowKit Go.Shelf Go.Lib

def wrtB (s : ByteArray) : Bool :=
  match tagP (rnS s 0) with
  | some (t, _) => (txt t).toList == s.toList
  | none => false
set_option maxHeartbeats 800000 in
theorem isWritten_any (s : ByteArray) (w : World) (hs : s.size ≤ 1000000) :
    Calls Try.prog 20 #[.string s] w fun e w' => e = .returned (.bool (wrtB s)) ∧ Below w.heap.size w w' := by
  have PT := points_any s w
  have hB1 : Below w.heap.size w (w.alloc (.cells #[.string s] 9)) := (Below.refl _ w).alloc (Nat.le_refl _) _
  have c1 := (Boxed.new w 9 (.string s)).cell
  have CL := collect_any w.heap.size s _ c1 hs
  have hTl : (rnS s 0).length ≤ 1000000 := Nat.le_trans (rnS_len s _ 0 (Nat.le_refl _)) (by omega)
  unfold wrtB
  obtain ⟨T, hT⟩ : ∃ T, rnS s 0 = T := ⟨_, rfl⟩
  rw [hT] at CL hTl ⊢
  clear hT
  obtain ⟨W1, hW1⟩ : ∃ W1, w.alloc (.cells #[.string s] 9) = W1 := ⟨_, rfl⟩
  rw [hW1] at PT hB1 c1 CL
  clear hW1
  cases ho : tagP T with
  | none =>
    go_enter Try.func20, Try.ntmps20
    go_wp2_with (first | (go_at_call 40; refine PT.mono ?_; rintro e w1 ⟨rfl, rfl⟩))
    refine CL.mono ?_
    rintro e w2 ⟨v, rfl, ho2, hb2⟩
    obtain ⟨a, k, c, rfl⟩ := ownsRow_form ho2
    obtain ⟨hI, hk, hkc, hcm⟩ := is_of_row ho2
    subst hk
    have TG := Tag_any a T T.length c w2 rfl hTl (by omega) hcm hI
    rw [ho, tagV_none] at TG
    clear CL PT ho ho2
    go_wp2_with (first | (go_at_call 38; refine TG.mono ?_; rintro e w3 ⟨rfl, hb3⟩))
    go_ret
    exact ⟨rfl, hB1.trans ((hb2.trans (hb3.mono hb2.size)).mono hB1.size)⟩
  | some o =>
    obtain ⟨t, m⟩ := o
    dsimp only
    go_enter Try.func20, Try.ntmps20
    go_wp2_with (first | (go_at_call 40; refine PT.mono ?_; rintro e w1 ⟨rfl, rfl⟩))
    refine CL.mono ?_
    rintro e w2 ⟨v, rfl, ho2, hb2⟩
    obtain ⟨a, k, c, rfl⟩ := ownsRow_form ho2
    obtain ⟨hI, hk, hkc, hcm⟩ := is_of_row ho2
    subst hk
    have TG := Tag_any a T T.length c w2 rfl hTl (by omega) hcm hI
    rw [ho, tagV_some] at TG
    clear CL PT ho ho2
    go_wp2_with (first | (go_at_call 38; refine TG.mono ?_; rintro e w3 ⟨rfl, hb3⟩))
    all_goals go_ret
    all_goals exact ⟨by simp_all, hB1.trans ((hb2.trans (hb3.mono hb2.size)).mono hB1.size)⟩
end Go.Proofs.Ytmeojnpehmhmoaa
