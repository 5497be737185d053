/- slices.Collect of a text's code points. -/
import Derived.Test.YtmeojnpehmhmoaaWds
import Derived.Deep.AppendLies
set_option linter.all false
namespace Go.Proofs.Ytmeojnpehmhmoaa
open Go.RowKit Go.Shelf Go.Lib
attribute [local go_sem] Oper.semAt_some

/-- A slice of the call's own that holds these ints. -/
abbrev OwnsI (w : World) (base : Nat) (v : Value) (t : List Int) : Prop := w.ownsRow base 3 1 v t.length (t.map (.int .i64))

theorem push1I {w : World} {base : Nat} {v : Value} {xs : List Int} (h : OwnsI w base v xs) (hb : base ≤ w.heap.size) (hn : xs.length + 1 ≤ 8796093022208) (x : Int) :
    ∃ g cap w1, (Builtin.append_ #[57, 57] 57 #[v, .slice (some ⟨w.heap.size, 0, none⟩) 1 1]).run Try.prog (w.alloc (.cells #[.int .i64 x] 3)) = .ok (.slice (some ⟨g, 0, none⟩) (xs.length + 1) cap) w1 ∧
      OwnsI w1 base (.slice (some ⟨g, 0, none⟩) (xs.length + 1) cap) (xs ++ [x]) ∧ (w.alloc (.cells #[.int .i64 x] 3)).grownBy w1 v.ownBlock ∧ (v.ownBlock = some g ∨ g = w.heap.size + 1) := by
  obtain ⟨i0, hi, hz0, hz1, hz2⟩ := info_parts Try.info3
  obtain ⟨g, cap, w1, h1, h2, h3, h4, -⟩ := run_append_lies (P := Try.prog) (w.alloc (.cells #[.int .i64 x] 3)) 57 57 base 3 i0 (.int .i64 0) 1 8 Try.underlying57 hi hz0 hz1 hz2 rfl (by decide)
    v xs.length (xs.map (.int .i64)) (h.alloc _) ⟨w.heap.size, 0, none⟩ 1 1 [.int .i64 x] rfl (cell_one_new _ _ _) (by simp [Value.oneCell']) (by decide) (by unfold maxLen; omega) (by omega) (by simp; omega) (w.heap.size + 1) (by simp)
  refine ⟨g, cap, w1, h1, ?_, h3, h4⟩
  unfold OwnsI
  rw [List.map_append, List.length_append]
  exact h2

/-- An append whose run is known, inside a fence. -/
theorem wpListIn_append_runS {F : Fence} {n : Nat} {P : Program} {w w' : World} {ops : Array Oper} {rest : List Oper} {o : Oper} {a : Act} {Q : Exit → Act → World → Prop} (hgd : o.guard = none) (s x : Operand) (t : TypeId)
    (ho : o.op = .call { callee := .builtin .append, args := #[s, x], argTypes := #[t, t] }) {u y v : Value} (hs : a.eval s = u) (hx : a.eval x = y)
    (hrun : (Builtin.append_ #[t, t] o.type #[u, y]).run P w = .ok v w') (h : wpListIn F n P ops Q rest (a.put o.dst v) w') : wpListIn F n P ops Q (o :: rest) a w := by
  refine wpListIn_plain hgd fun K hK' => ?_
  unfold Oper.wpIn
  refine ⟨?_, ?_⟩
  · simp [Oper.about, ho, resolve, Target.leads, Sem.run_pure]
  · rw [Oper.semAt_plain F _ _ (by rw [ho]; intro c hc'; cases hc')]
    simp [execOp, ho, resolve, invoke, builtin, hs, hx, hrun, Result.andThen]
    exact hK' _ _ h

theorem ownsI_cells {w : World} {base : Nat} {v : Value} {t : List Int} (h : OwnsI w base v t) {g : Nat} (hg : v.ownBlock = some g) : base ≤ g ∧ ∃ cur, w.heap[g]? = some (.cells cur 3 (0, 0)) := by
  rcases h.2 with ⟨rfl, -⟩ | ⟨g', cap, cur, rfl, hb, hh, -⟩
  · cases hg
  · cases hg; exact ⟨hb, cur, hh⟩

def Ia (w : World) (T : List Int) (i : Nat) (W : World) : Prop :=
  ∃ v, Boxed W w.heap.size 57 v ∧ OwnsI W w.heap.size v (T.take i) ∧ Below w.heap.size w W
theorem Ia.own {w : World} {T : List Int} (B : Nat) (hB : w.heap.size ≤ B) : OwnFrom B (Ia w T) := by
  rintro s W W' row ⟨v, hv, ho, hb⟩ hgr hr
  refine ⟨v, boxed_ownS hv hgr hr, ho.kept hgr ?_, hb.grown hgr hb.size ?_⟩
  · cases hvb : v.ownBlock with
    | none => exact .inl rfl
    | some g =>
      refine .inr fun e => ?_
      obtain ⟨-, o, ho', hc⟩ := hr g e.symm
      obtain ⟨-, cur, hcur⟩ := ownsI_cells ho hvb
      rw [hcur] at ho'; cases ho'; cases hc
  · intro k e
    have := (hr k e).1
    omega
theorem Ia_step {w W w1 : World} {B : Nat} {T : List Int} {i : Nat} {x : Int} {v : Value} {g cap : Nat} (hx : T[i]? = some x) (hv : Boxed W w.heap.size 57 v) (ho : OwnsI W w.heap.size v (T.take i)) (hBl : Below w.heap.size w W)
    (h2 : OwnsI w1 w.heap.size (.slice (some ⟨g, 0, none⟩) ((T.take i).length + 1) cap) (T.take i ++ [x])) (h3 : (W.alloc (.cells #[.int .i64 x] 3)).grownBy w1 v.ownBlock) :
    Boxed w1 w.heap.size 57 v ∧ Hid (postT B (fun _ _ => True) (Ia w T) (fun _ _ _ => False) (i + 1) W .normal { tmps := #[], defers := [] } (w1.setCell ⟨w.heap.size, 0, none⟩ (.slice (some ⟨g, 0, none⟩) ((T.take i).length + 1) cap))) := by
  have hsz := hBl.size
  obtain ⟨hv1, hv2, hr2, hk2, hb2⟩ := hv.appended (by decide) ho (by omega) (by omega) h2 h3
  have htk : T.take i ++ [x] = T.take (i + 1) := by rw [List.take_add_one, hx]; simp
  exact ⟨hv1, hk2.from B, trivial, _, hv2, htk ▸ hr2, hBl.trans hb2⟩

set_option maxRecDepth 100000 in
set_option maxHeartbeats 1600000 in
theorem appendSeq_in (n : Nat) (hn : 1 ≤ n) (Bc : Nat) (s : ByteArray) (w : World) (c1 : w.cell? ⟨Bc, 0, none⟩ = some (.string s)) (hl : s.size ≤ 1000000) :
    CallsIn Fence.wide n Try.prog 65 #[.slice none 0 0, .func (.func 66) #[] #[.pointer (some ⟨Bc, 0, none⟩)]] w fun e w' => ∃ v, e = .returned v ∧ OwnsI w' w.heap.size v (rnS s 0) ∧ Below w.heap.size w w' := by
  have hBc := World.block_lt_of_cell? w _ c1
  dsimp only at hBc
  have hTl : (rnS s 0).length ≤ 1000000 := Nat.le_trans (rnS_len s _ 0 (Nat.le_refl _)) (by omega)
  have hb0 := Boxed.new w 57 (.slice none 0 0)
  have hB0 : Below w.heap.size w (w.alloc (.cells #[.slice none 0 0] 57)) := (Below.refl _ w).alloc (Nat.le_refl _) _
  have hs0 : (w.alloc (.cells #[.slice none 0 0] 57)).heap.size = w.heap.size + 1 := by simp
  have SQ := points_seq (n - 1) Bc s (w.alloc (.cells #[.slice none 0 0] 57)) ((hB0.cell (p := ⟨Bc, 0, none⟩) hBc).trans c1)
  generalize rnS s 0 = T at *
  have ho0 : OwnsI (w.alloc (.cells #[.slice none 0 0] 57)) w.heap.size (.slice none 0 0) (T.take 0) := ⟨rfl, .inl ⟨rfl, rfl⟩⟩
  refine callsIn_of_wp_marks Try.func65 rfl trivial ?_ rfl
  simp only [Try.ntmps65, List.size_toArray, List.length_cons, List.length_nil, Nat.reduceAdd, Nat.reduceSub, Array.replicate_succ, Array.replicate_zero, List.push_toArray, List.append_toArray, List.nil_append, List.cons_append]
  gi_wp2
  generalize w.alloc (.cells #[.slice none 0 0] 57) = W0 at hb0 hB0 hs0 SQ ho0 ⊢
  refine wpIn_rangeFuncS (gf := 66) (lb := #[.pointer (some ⟨Bc, 0, none⟩)]) rfl (enters_of Try.func66 (by kernel_rfl) rfl) SQ (Below.refl _ _) (fun _ => rfl)
    (Ia w T) (fun _ _ _ => False) (Ia.own _ (by omega)) (fun _ _ _ _ _ h => h.elim)
    ⟨_, hb0, ho0, hB0⟩
    (fun x => { tmps := #[.slice none 0 0, .func (.func 66) #[] #[.pointer (some ⟨Bc, 0, none⟩)], .pointer (some ⟨w.heap.size, 0, none⟩), undef, .slice none 0 0, .int .i64 x, .func (.func 66) #[] #[.pointer (some ⟨Bc, 0, none⟩)], .int .i64 x, undef, undef, undef, undef, undef], defers := [] }) ?assign ?body ?done ?stop
  case assign =>
    intro m l x W K hK
    gi_wp2
    exact hK
  case body =>
    rintro m l i x W hx ⟨v, hv, hoi, hBl⟩
    have hcl := hv.cell
    obtain ⟨g, cap, w1, hrun, h2, h3, h4⟩ := push1I hoi (by have := hBl.size; omega) (by rw [List.length_take]; omega) x
    obtain ⟨hv1, HF⟩ := Ia_step (B := W0.heap.size) hx hv hoi hBl h2 h3
    have hc1 := hv1.cell
    have hf1 := hv1.frozen
    obtain ⟨va, vk, vc, rfl⟩ := ownsRow_form hoi
    clear SQ hx h2 h3 h4
    generalize (List.take i T).length + 1 = kk at hrun HF
    gi_wp2_with (first | (gi_at_builtin; refine wpListIn_append_runS rfl _ _ 57 rfl rfl rfl hrun ?_))
    exact HF.out
  case done =>
    rintro D W hD ⟨v, hv, hoi, hBl⟩ hK
    rw [List.take_length] at hoi
    obtain ⟨va, vk, vc, rfl⟩ := ownsRow_form hoi
    have hcl := hv.cell
    clear SQ
    gi_wp2
    refine ⟨by simp, .inl ⟨_, _, rfl, run_takeDeferred hK, ?_⟩⟩
    refine ⟨_, results_tmp rfl _ _ _, _, rfl, ?_, ?_⟩
    · exact ownsRow_putObj hoi _ hK rfl
    · exact hBl.trans (belowK_b (w := w) (Nat.le_refl _) W D _ _ (by omega) hK rfl rfl)
  case stop =>
    rintro D c' i W hD h hK
    exact h.elim

set_option maxHeartbeats 1000000 in
theorem collect_any (Bc : Nat) (s : ByteArray) (w : World) (c1 : w.cell? ⟨Bc, 0, none⟩ = some (.string s)) (hl : s.size ≤ 1000000) :
    Calls Try.prog 39 #[.func (.func 66) #[] #[.pointer (some ⟨Bc, 0, none⟩)]] w fun e w' => ∃ v, e = .returned v ∧ OwnsI w' w.heap.size v (rnS s 0) ∧ Below w.heap.size w w' := by
  have H := (callsIn_wide (n := 9)).1 (appendSeq_in 9 (by decide) Bc s w c1 hl)
  generalize rnS s 0 = T at H ⊢
  go_enter Try.func39, Try.ntmps39
  go_wp2_with (go_at_call 65; refine H.mono ?_; rintro e w' ⟨v, rfl, h1, h2⟩)
  go_ret
  exact ⟨_, rfl, h1, h2⟩
theorem points_any (s : ByteArray) (w : World) :
    Calls Try.prog 40 #[.string s] w fun e w' => e = .returned (.func (.func 66) #[] #[.pointer (some ⟨w.heap.size, 0, none⟩)]) ∧ w' = w.alloc (.cells #[.string s] 9) :=
  (callsIn_wide (n := 9)).1 (points_in 9 s w)
end Go.Proofs.Ytmeojnpehmhmoaa
