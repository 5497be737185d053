/- slices.AppendSeq, slices.Collect; fold.Flow, Literal and Block: which text they answer, in memory of its own. -/
import Derived.Test.YtgmcomfeggidnaaWhl
import Derived.Deep.AppendLies
set_option linter.unusedVariables false
set_option linter.unusedSimpArgs false
namespace Go.Proofs.Ytgmcomfeggidnaa
open Go.RowKit Go.Shelf
attribute [local go_sem] Oper.semAt_some

/-- A slice of the call's own that holds these ints. -/
abbrev Owns (w : World) (base : Nat) (v : Value) (t : List Int) : Prop := w.ownsRow base 3 1 v t.length (t.map (.int .i64))

theorem push1 {w : World} {base : Nat} {v : Value} {xs : List Int} (h : Owns w base v xs) (hb : base ≤ w.heap.size) (hn : xs.length + 1 ≤ 8796093022208) (x : Int) :
    ∃ g cap w1, (Builtin.append_ #[22, 22] 22 #[v, .slice (some ⟨w.heap.size, 0, none⟩) 1 1]).run Try.prog (w.alloc (.cells #[.int .i64 x] 3)) = .ok (.slice (some ⟨g, 0, none⟩) (xs.length + 1) cap) w1 ∧
      Owns w1 base (.slice (some ⟨g, 0, none⟩) (xs.length + 1) cap) (xs ++ [x]) ∧ (w.alloc (.cells #[.int .i64 x] 3)).grownBy w1 v.ownBlock ∧ (v.ownBlock = some g ∨ g = w.heap.size + 1) := by
  obtain ⟨i0, hi, hz0, hz1, hz2⟩ := info_parts Try.info3
  obtain ⟨g, cap, w1, h1, h2, h3, h4, -⟩ := run_append_lies (P := Try.prog) (w.alloc (.cells #[.int .i64 x] 3)) 22 22 base 3 i0 (.int .i64 0) 1 8 Try.underlying22 hi hz0 hz1 hz2 rfl (by decide)
    v xs.length (xs.map (.int .i64)) (h.alloc _) ⟨w.heap.size, 0, none⟩ 1 1 [.int .i64 x] rfl (cell_one_new _ _ _) (by simp [Value.oneCell']) (by decide) (by unfold maxLen; omega) (by omega) (by simp; omega) (w.heap.size + 1) (by simp)
  refine ⟨g, cap, w1, h1, ?_, h3, h4⟩
  unfold Owns
  rw [List.map_append, List.length_append]
  exact h2

/-- An append whose run is known, inside a fence. -/
theorem wpListIn_append_run {F : Fence} {n : Nat} {P : Program} {w w' : World} {ops : Array Oper} {rest : List Oper} {o : Oper} {a : Act} {Q : Exit → Act → World → Prop} (hgd : o.guard = none) (s x : Operand) (t : TypeId)
    (ho : o.op = .call { callee := .builtin .append, args := #[s, x], argTypes := #[t, t] }) {u y v : Value} (hs : a.eval s = u) (hx : a.eval x = y)
    (hrun : (Builtin.append_ #[t, t] o.type #[u, y]).run P w = .ok v w') (h : wpListIn F n P ops Q rest (a.put o.dst v) w') : wpListIn F n P ops Q (o :: rest) a w := by
  refine wpListIn_plain hgd fun K hK' => ?_
  unfold Oper.wpIn
  refine ⟨?_, ?_⟩
  · simp [Oper.about, ho, resolve, Target.leads, Sem.run_pure]
  · rw [Oper.semAt_plain F _ _ (by rw [ho]; intro c hc'; cases hc')]
    simp [execOp, ho, resolve, invoke, builtin, hs, hx, hrun, Result.andThen]
    exact hK' _ _ h

/-- Between two rounds of AppendSeq: s holds what has come; none of X is its own. -/
def Ia (w : World) (X : Nat → Prop) (pre : List Int) (W : World) : Prop :=
  (∃ v, Boxed W w.heap.size 22 v ∧ Owns W w.heap.size v pre ∧ ∀ g, v.ownBlock = some g → ¬ X g) ∧ ¬ X w.heap.size ∧ (∀ b, X b → w.heap.size ≤ b ∧ b < W.heap.size) ∧ Below w.heap.size w W

theorem owns_cells {w : World} {base : Nat} {v : Value} {t : List Int} (h : Owns w base v t) {g : Nat} (hg : v.ownBlock = some g) : base ≤ g ∧ ∃ cur, w.heap[g]? = some (.cells cur 3 (0, 0)) := by
  rcases h.2 with ⟨rfl, -⟩ | ⟨g', cap, cur, rfl, hb, hh, -⟩
  · cases hg
  · cases hg; exact ⟨hb, cur, hh⟩

theorem Ia_abx (w : World) (B : Nat) (hB : w.heap.size ≤ B) : Abx B (Ia w) := by
  refine ⟨?_, ?_, ?_, fun X s W b hs hb => (hs.2.2.1 b hb).2⟩
  · rintro X s W W' row ⟨⟨v, hv, ho, hg⟩, hx, hX, hBl⟩ hgr hr
    refine ⟨⟨v, hv.kept hgr ?_, ho.kept hgr ?_, hg⟩, hx, fun b hb => ⟨(hX b hb).1, Nat.lt_of_lt_of_le (hX b hb).2 hgr.size⟩, hBl.grown hgr hBl.size ?_⟩
    · intro e
      rcases hr _ e.symm with h | ⟨-, o, ho', hc⟩
      · exact hx h
      · rw [show W.heap[w.heap.size]? = _ from hv] at ho'; cases ho'; cases hc
    · cases hvb : v.ownBlock with
      | none => exact .inl rfl
      | some g =>
        refine .inr fun e => ?_
        rcases hr g e.symm with h | ⟨-, o, ho', hc⟩
        · exact hg g hvb h
        · obtain ⟨-, cur, hcur⟩ := owns_cells ho hvb
          rw [hcur] at ho'; cases ho'; cases hc
    · intro k e
      rcases hr k e with h | ⟨h, -⟩
      · exact (hX k h).1
      · omega
  · rintro X s W o ⟨⟨v, hv, ho, hg⟩, hx, hX, hBl⟩
    have hlt := hv.lt
    refine ⟨⟨v, hv.alloc o, ho.alloc o, fun g hvb h => ?_⟩, (fun h => h.elim hx (fun e => by omega)), fun b hb => ?_, hBl.alloc hBl.size o⟩
    · rcases h with h | h
      · exact hg g hvb h
      · obtain ⟨-, cur, hcur⟩ := owns_cells ho hvb
        have := (Array.getElem?_eq_some_iff.1 hcur).1
        omega
    · rw [World.size_alloc]
      rcases hb with h | h
      · have := hX b h; omega
      · have := hBl.size; omega
  · rintro X Y s W ⟨⟨v, hv, ho, hg⟩, hx, hX, hBl⟩ hY
    exact ⟨⟨v, hv, ho, fun g e h => hg g e (hY g h)⟩, fun h => hx (hY _ h), fun b hb => hX b (hY b hb), hBl⟩

/-- One more. -/
theorem Ia_step {w W w1 : World} {X : Nat → Prop} {pre : List Int} {x : Int} {v : Value} {g cap l : Nat} {r : Loop} (hv : Boxed W w.heap.size 22 v) (ho : Owns W w.heap.size v pre) (hg : ∀ g, v.ownBlock = some g → ¬ X g) (hx : ¬ X w.heap.size) (hX : ∀ b, X b → w.heap.size ≤ b ∧ b < W.heap.size) (hBl : Below w.heap.size w W)
    (hl : W.heap[l]? = some (.loop r)) (h2 : Owns w1 w.heap.size (.slice (some ⟨g, 0, none⟩) (pre.length + 1) cap) (pre ++ [x])) (h3 : (W.alloc (.cells #[.int .i64 x] 3)).grownBy w1 v.ownBlock) (h4 : v.ownBlock = some g ∨ g = W.heap.size + 1) :
    Boxed w1 w.heap.size 22 v ∧ Hid (postx w.heap.size l (Ia w) X (pre ++ [x]) W .normal { tmps := #[], defers := [] } (w1.setCell ⟨w.heap.size, 0, none⟩ (.slice (some ⟨g, 0, none⟩) (pre.length + 1) cap))) := by
  obtain ⟨hv1, hv2, hr2, hk2, hb2⟩ := hv.appended (by decide) ho hBl.size (Nat.le_refl _) h2 h3
  have hold : ∀ b, b < W.heap.size → b ≠ w.heap.size → some b ≠ v.ownBlock → (w1.setCell ⟨w.heap.size, 0, none⟩ (.slice (some ⟨g, 0, none⟩) (pre.length + 1) cap)).heap[b]? = W.heap[b]? := by
    intro b hb hne hnv
    rw [Deep.blk_setCell_other _ _ _ _ hne, h3.block b (by simp; omega) hnv]
    exact Below.heap_alloc W _ b hb
  refine ⟨hv1, ⟨hb2, fun b hb => hold b (hX b hb).2 (fun e => hx (e ▸ hb)) (fun e => hg b e.symm hb), fun k o _ hk hc => hk2.same k o hk hc⟩, ⟨⟨_, hv2, hr2, fun g' e h => ?_⟩, hx, fun b hb => ⟨(hX b hb).1, Nat.lt_of_lt_of_le (hX b hb).2 hb2.size⟩, hBl.trans hb2⟩, (hk2.same l _ hl rfl).trans hl.symm⟩
  cases e
  rcases h4 with h4 | rfl
  · exact hg g h4 h
  · have : W.heap.size + 1 < W.heap.size := (hX _ h).2
    omega

set_option maxRecDepth 100000 in
set_option maxHeartbeats 2000000 in
theorem appendSeq_in (n : Nat) (hn : 1 ≤ n) (gf : Nat) (lb : Array Value) (T : List Int) (w : World) (eg : ∀ args w, (callFunc gf args).run Try.prog w = .ok (.enter gf args) w)
    (hseq : Seqx (n - 1) Try.prog gf lb encI w.heap.size 8000000000000 (fun xs => xs = T) w) :
    CallsIn Fence.wide n Try.prog 57 #[.slice none 0 0, .func (.func gf) #[] lb] w fun e w' => ∃ v, e = .returned v ∧ Owns w' w.heap.size v T ∧ Below w.heap.size w w' := by
  refine callsIn_of_wp_marks Try.func57 rfl trivial ?_ rfl
  simp only [Try.ntmps57, List.size_toArray, List.length_cons, List.length_nil, Nat.reduceAdd, Nat.reduceSub, Array.replicate_succ, Array.replicate_zero, List.push_toArray, List.append_toArray, List.nil_append, List.cons_append]
  gi_wp2
  have hb0 := Boxed.new w 22 (.slice none 0 0)
  have hB0 : Below w.heap.size w (w.alloc (.cells #[.slice none 0 0] 22)) := (Below.refl _ w).alloc (Nat.le_refl _) _
  have hs0 : (w.alloc (.cells #[.slice none 0 0] 22)).heap.size = w.heap.size + 1 := by simp
  generalize w.alloc (.cells #[.slice none 0 0] 22) = W0 at hb0 hB0 hs0 ⊢
  refine wpIn_rangeFuncx (gf := gf) (lb := lb) rfl eg (n₀ := w.heap.size) (by omega) hseq hB0 (fun _ => rfl) (Ia w) (Ia_abx w _ (by omega))
    ⟨⟨_, hb0, World.ownsRow_nil _ _ 3 1, (fun g e => by cases e)⟩, id, (fun b h => h.elim), hB0⟩
    (fun x => { tmps := #[.slice none 0 0, .func (.func gf) #[] lb, .pointer (some ⟨w.heap.size, 0, none⟩), undef, .slice none 0 0, .int .i64 x, .func (.func gf) #[] lb, .int .i64 x, undef, undef, undef, undef, undef], defers := [] }) ?assign ?body ?done
  case assign =>
    intro m l x W K hK
    simp only [encI]
    gi_wp2
    exact hK
  case body =>
    rintro m l X pre x W hl ⟨r, hr⟩ ⟨⟨v, hv, ho, hg⟩, hx, hX, hBl⟩ hlt
    have hcl := hv.cell
    obtain ⟨g, cap, w1, hrun, h2, h3, h4⟩ := push1 ho hBl.size (by omega) x
    obtain ⟨hv1, HF⟩ := Ia_step hv ho hg hx hX hBl hr h2 h3 h4
    have hc1 := hv1.cell
    have hf1 := hv1.frozen
    obtain ⟨va, vk, vc, rfl⟩ := ownsRow_form ho
    clear hseq
    gi_wp2_with (first | (gi_at_builtin; refine wpListIn_append_run rfl _ _ 22 rfl rfl rfl hrun ?_))
    exact HF.out
  case done =>
    rintro D ys W hD rfl ⟨⟨v, hv, ho, -⟩, -, -, hBl⟩ hK
    obtain ⟨va, vk, vc, rfl⟩ := ownsRow_form ho
    have hcl := hv.cell
    gi_wp2
    refine ⟨by simp, .inl ⟨_, _, rfl, run_takeDeferred hK, ?_⟩⟩
    refine ⟨_, results_tmp rfl _ _ _, _, rfl, ?_, ?_⟩
    · exact ownsRow_putObj ho _ hK rfl
    · exact hBl.trans (belowK_b (w := w) (Nat.le_refl _) W D _ _ (by omega) hK rfl rfl)

set_option maxRecDepth 100000 in
set_option maxHeartbeats 2000000 in
theorem collect_in (n : Nat) (hn : 2 ≤ n) (gf : Nat) (lb : Array Value) (T : List Int) (w : World) (eg : ∀ args w, (callFunc gf args).run Try.prog w = .ok (.enter gf args) w)
    (hseq : Seqx (n - 1 - 1) Try.prog gf lb encI w.heap.size 8000000000000 (fun xs => xs = T) w) :
    CallsIn Fence.wide n Try.prog 51 #[.func (.func gf) #[] lb] w fun e w' => ∃ v, e = .returned v ∧ Owns w' w.heap.size v T ∧ Below w.heap.size w w' := by
  have A := appendSeq_in (n - 1) (by omega) gf lb T w eg hseq
  have h1 : 1 ≤ n := by omega
  clear hseq eg
  refine callsIn_of_wp Try.func51 rfl trivial ?_ rfl
  simp only [Try.ntmps51, List.size_toArray, List.length_cons, List.length_nil, Nat.reduceAdd, Nat.reduceSub, Array.replicate_succ, Array.replicate_zero, List.push_toArray, List.append_toArray, List.nil_append, List.cons_append]
  gi_wp2_with (first | (refine ⟨trivial, ?_⟩; gi_at_call 57; refine A.mono ?_; rintro e w' ⟨v, rfl, ho, hb⟩))
  go_ret
  exact ⟨_, rfl, ho, hb⟩

/-- The world behind wholePoints: three boxes. -/
def wB (w : World) (p : Option Addr) (len cap : Nat) (chomp : Int) (hf : Nat) : World := ((w.alloc (.cells #[.slice p len cap] 41)).alloc (.cells #[.int .i64 chomp] 3)).alloc (.cells #[.func (.func hf) #[] #[]] 33)

set_option maxHeartbeats 1000000 in
theorem wholePoints_in (n : Nat) (p : Option Addr) (len cap : Nat) (chomp : Int) (hf : Nat) (w : World) :
    CallsIn Fence.wide n Try.prog 52 #[.slice p len cap, .int .i64 chomp, .func (.func hf) #[] #[]] w fun e w' => e = .returned (.func (.func 58) #[] #[.pointer (some ⟨w.heap.size, 0, none⟩), .pointer (some ⟨w.heap.size + 1 + 1, 0, none⟩), .pointer (some ⟨w.heap.size + 1, 0, none⟩)]) ∧ w' = wB w p len cap chomp hf := by
  refine callsIn_of_wp Try.func52 rfl trivial ?_ rfl
  simp only [Try.ntmps52, List.size_toArray, List.length_cons, List.length_nil, Nat.reduceAdd, Nat.reduceSub, Array.replicate_succ, Array.replicate_zero, List.push_toArray, List.append_toArray, List.nil_append, List.cons_append]
  gi_wp2
  go_ret
  exact ⟨rfl, rfl⟩

/-- Lines that fold may be handed: as many, and as long, as nobody writes. -/
def Sized (R : List Row) : Prop := R.length ≤ 1048576 ∧ ∀ i, (tAt R i).length ≤ 1048576
theorem dropF_le (t : List Int) : (dropF t).length ≤ t.length := by
  unfold dropF
  exact (List.dropWhile_suffix _).length_le
theorem trimF_le (f b : Bool) (t : List Int) : (trimF f b t).length ≤ t.length := by
  have h1 : ∀ u : List Int, (dropB u).length ≤ u.length := fun u => by
    unfold dropB
    rw [List.length_reverse]
    have := (List.dropWhile_suffix (l := u.reverse) blankP).length_le
    simpa using this
  have h2 := dropF_le t
  unfold trimF
  cases f <;> cases b <;> simp only [Bool.false_eq_true, if_false, if_true]
  · exact Nat.le_refl _
  · exact h1 t
  · exact h2
  · exact Nat.le_trans (h1 _) h2

def flowT (R : List Row) : List Int := (joinT sepFl (trimG R) (told (tellF R) R.length)).1

theorem MtB.le {n₀ m : Nat} {w : World} {p : Option Addr} {R : List Row} (h : MtB n₀ w p R) (hm : n₀ ≤ m) : MtB m w p R :=
  ⟨h.1, fun a e hl => Nat.lt_of_lt_of_le (h.2.1 a e hl) hm, fun j r hr a e hl => Nat.lt_of_lt_of_le (h.2.2 j r hr a e hl) hm⟩

theorem wB_facts (w : World) (p : Option Addr) (len cap : Nat) (chomp : Int) (hf : Nat) : (wB w p len cap chomp hf).heap.size = w.heap.size + 3 ∧ Boxed (wB w p len cap chomp hf) w.heap.size 41 (.slice p len cap) ∧ Boxed (wB w p len cap chomp hf) (w.heap.size + 1) 3 (.int .i64 chomp) ∧ Boxed (wB w p len cap chomp hf) (w.heap.size + 1 + 1) 33 (.func (.func hf) #[] #[]) ∧ Below w.heap.size w (wB w p len cap chomp hf) := by
  have b1 := Boxed.new w 41 (.slice p len cap)
  have b2 := Boxed.new (w.alloc (.cells #[.slice p len cap] 41)) 3 (.int .i64 chomp)
  have b3 := Boxed.new ((w.alloc (.cells #[.slice p len cap] 41)).alloc (.cells #[.int .i64 chomp] 3)) 33 (.func (.func hf) #[] #[])
  simp only [World.size_alloc] at b2 b3
  exact ⟨by simp [wB], (b1.alloc _).alloc _, b2.alloc _, b3, (((Below.refl _ w).alloc (Nat.le_refl _) _).alloc (by simp) _).alloc (by simp; omega) _⟩

theorem whole_seq (n : Nat) (hn : 3 ≤ n) (p : Option Addr) (R : List Row) (cap : Nat) (chomp : Int) (hf : Nat) (P : List Int → Bool) (w : World) (hS : Sized R) (hM : Mt w p R) (hBet : BetOk hf P p R cap) :
    Seqx n Try.prog 58 #[.pointer (some ⟨w.heap.size, 0, none⟩), .pointer (some ⟨w.heap.size + 1 + 1, 0, none⟩), .pointer (some ⟨w.heap.size + 1, 0, none⟩)] encI (w.heap.size + 3) 8000000000000 (fun xs => xs = wholeT P R chomp) (wB w p R.length cap chomp hf) := by
  obtain ⟨hs, b1, b2, b3, hB⟩ := wB_facts w p R.length cap chomp hf
  intro l J X W hW hl hJ hY h0
  rw [hs] at hW
  have hM2 : MtB (w.heap.size + 3) W p R := ((hM.on hB).b.le (by omega)).on hW
  exact whole1_in n hn (w.heap.size + 3) 8000000000000 cap w.heap.size (w.heap.size + 1 + 1) (w.heap.size + 1) l hf P chomp p R hS.1 hS.2 (by decide) J X W hl (by have := hW.size; omega) hJ hY hBet (by omega) (by omega) (by omega)
    ((hW.cell (p := ⟨w.heap.size, 0, none⟩) (by show w.heap.size < w.heap.size + 3; omega)).trans b1.cell) ((hW.cell (p := ⟨w.heap.size + 1 + 1, 0, none⟩) (by show w.heap.size + 1 + 1 < w.heap.size + 3; omega)).trans b3.cell) ((hW.cell (p := ⟨w.heap.size + 1, 0, none⟩) (by show w.heap.size + 1 < w.heap.size + 3; omega)).trans b2.cell) hM2 h0

set_option maxRecDepth 100000 in
set_option maxHeartbeats 2000000 in
/-- fold.Literal. -/
theorem Literal_any (p : Option Addr) (R : List Row) (cap : Nat) (chomp : Int) (w : World) (hS : Sized R) (hM : Mt w p R) :
    Calls Try.prog 41 #[.slice p R.length cap, .int .i64 chomp] w fun e w' => ∃ v, e = .returned v ∧ Owns w' w.heap.size v (wholeT alwaysP R chomp) ∧ Below w.heap.size w w' := by
  obtain ⟨hs, b1, b2, b3, hB⟩ := wB_facts w p R.length cap chomp 54
  have SQ := whole_seq 7 (by decide) p R cap chomp 54 alwaysP w hS hM (betA_ok p R cap hS.1)
  rw [← hs] at SQ
  have C' := (callsIn_wide (n := 9)).1 (collect_in 9 (by decide) 58 _ (wholeT alwaysP R chomp) (wB w p R.length cap chomp 54) (enters_of Try.func58 (by kernel_rfl) rfl) SQ)
  have FP := (callsIn_wide (n := 9)).1 (wholePoints_in 9 p R.length cap chomp 54 w)
  rw [hs] at C'
  clear SQ hM hS b1 b2 b3
  generalize wholeT alwaysP R chomp = T at C' ⊢
  generalize wB w p R.length cap chomp 54 = W1 at C' FP hs hB
  go_enter Try.func41, Try.ntmps41
  go_wp2_with (first | (go_at_call 52; refine FP.mono ?_; rintro e w' ⟨rfl, rfl⟩) | (go_at_call 51; refine C'.mono ?_; rintro e w' ⟨v, rfl, ho, hb⟩))
  go_ret
  exact ⟨_, rfl, ownsRow_mono ho (by omega), hB.trans (hb.mono (by omega))⟩

set_option maxRecDepth 100000 in
set_option maxHeartbeats 2000000 in
/-- fold.Block. -/
theorem Block_any (p : Option Addr) (R : List Row) (cap : Nat) (chomp : Int) (w : World) (hS : Sized R) (hM : Mt w p R) :
    Calls Try.prog 40 #[.slice p R.length cap, .int .i64 chomp] w fun e w' => ∃ v, e = .returned v ∧ Owns w' w.heap.size v (wholeT spacedP R chomp) ∧ Below w.heap.size w w' := by
  obtain ⟨hs, b1, b2, b3, hB⟩ := wB_facts w p R.length cap chomp 53
  have SQ := whole_seq 7 (by decide) p R cap chomp 53 spacedP w hS hM (betS_ok p R cap hS.1)
  rw [← hs] at SQ
  have C' := (callsIn_wide (n := 9)).1 (collect_in 9 (by decide) 58 _ (wholeT spacedP R chomp) (wB w p R.length cap chomp 53) (enters_of Try.func58 (by kernel_rfl) rfl) SQ)
  have FP := (callsIn_wide (n := 9)).1 (wholePoints_in 9 p R.length cap chomp 53 w)
  rw [hs] at C'
  clear SQ hM hS b1 b2 b3
  generalize wholeT spacedP R chomp = T at C' ⊢
  generalize wB w p R.length cap chomp 53 = W1 at C' FP hs hB
  go_enter Try.func40, Try.ntmps40
  go_wp2_with (first | (go_at_call 52; refine FP.mono ?_; rintro e w' ⟨rfl, rfl⟩) | (go_at_call 51; refine C'.mono ?_; rintro e w' ⟨v, rfl, ho, hb⟩))
  go_ret
  exact ⟨_, rfl, ownsRow_mono ho (by omega), hB.trans (hb.mono (by omega))⟩
end Go.Proofs.Ytgmcomfeggidnaa
