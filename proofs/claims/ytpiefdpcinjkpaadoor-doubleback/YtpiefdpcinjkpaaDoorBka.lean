/- AppendSeq of an escape's signs to a list. -/
import Derived.Test.YtpiefdpcinjkpaaDoorBkj
import Derived.Test.YtpiefdpcinjkpaaDoorCol
import Derived.Test.YtpiefdpcinjkpaaDoorYls
set_option linter.unusedVariables false
set_option linter.unusedSimpArgs false
namespace Go.Proofs.YtpiefdpcinjkpaaDoor
open Go.RowKit Go.Shelf
attribute [local go_sem] Oper.semAt_some

theorem signs_seq (n Bc n₀ : Nat) (c : Int) (h0c : 0 ≤ c) (h1c : c < 65536) (w : World) (hn₀ : n₀ ≤ w.heap.size) (h0n : 0 < n₀) (hT : Tab w) (c1 : w.cell? ⟨Bc, 0, none⟩ = some (.int .i64 c)) :
    SeqT n Tryd.prog 33 #[.pointer (some ⟨Bc, 0, none⟩)] encI (signsP c) (Kc n₀ Bc) w := fun l J Jx W hW _ hJ hJx hY h0 =>
  signs1_in n l Bc n₀ c h0c h1c J Jx W (Nat.le_trans hn₀ hW.size) h0n (hT.on hW) ((hW.cell (p := ⟨Bc, 0, none⟩) (World.block_lt_of_cell? w _ c1)).trans c1) hJ hJx hY h0

def Ig (w : World) (n₀ Bc : Nat) (xs T : List Int) (i : Nat) (W : World) : Prop :=
  ∃ v, Boxed W w.heap.size 25 v ∧ Owns W n₀ v (xs ++ T.take i) ∧ (∀ g, v.ownBlock = some g → g ≠ Bc) ∧ Below n₀ w W
theorem Ig.own {w : World} {n₀ Bc : Nat} {xs T : List Int} (B : Nat) (hB : n₀ ≤ B) (hn : n₀ ≤ w.heap.size) : OwnFrom B (Ig w n₀ Bc xs T) := by
  rintro s W W' row ⟨v, hv, ho, hg, hb⟩ hgr hr
  refine ⟨v, hv.kept hgr ?_, ho.kept hgr ?_, hg, hb.grown hgr (Nat.le_trans hn hb.size) ?_⟩
  · intro e
    obtain ⟨-, o, ho', hc⟩ := hr _ e.symm
    rw [show W.heap[w.heap.size]? = _ from hv] at ho'; cases ho'; cases hc
  · cases hvb : v.ownBlock with
    | none => exact .inl rfl
    | some g =>
      refine .inr fun e => ?_
      obtain ⟨-, o, ho', hc⟩ := hr g e.symm
      obtain ⟨-, cur, hcur⟩ := owns_cells ho hvb
      rw [hcur] at ho'; cases ho'; cases hc
  · intro k e
    have := (hr k e).1
    omega
theorem Ig_step {w W w1 : World} {n₀ Bc B : Nat} {xs T : List Int} {i : Nat} {x : Int} {v : Value} {g cap : Nat} (hn : n₀ ≤ w.heap.size) (hBc : Bc < w.heap.size) (hx : T[i]? = some x) (hv : Boxed W w.heap.size 25 v) (ho : Owns W n₀ v (xs ++ T.take i)) (hg : ∀ g, v.ownBlock = some g → g ≠ Bc) (hBl : Below n₀ w W)
    (h2 : Owns w1 n₀ (.slice (some ⟨g, 0, none⟩) ((xs ++ T.take i).length + 1) cap) ((xs ++ T.take i) ++ [x])) (h3 : (W.alloc (.cells #[.int .i64 x] 3)).grownBy w1 v.ownBlock) (h4 : v.ownBlock = some g ∨ g = W.heap.size + 1) :
    Boxed w1 w.heap.size 25 v ∧ Hid (postT B (Kc n₀ Bc) (Ig w n₀ Bc xs T) (fun _ _ _ => False) (i + 1) W .normal { tmps := #[], defers := [] } (w1.setCell ⟨w.heap.size, 0, none⟩ (.slice (some ⟨g, 0, none⟩) ((xs ++ T.take i).length + 1) cap))) := by
  have hsz := hBl.size
  obtain ⟨hv1, hv2, hr2, hk2, hb2⟩ := hv.appended (by decide) ho (by omega) (by omega) h2 h3
  have htk : (xs ++ T.take i) ++ [x] = xs ++ T.take (i + 1) := by rw [List.take_add_one, hx]; simp
  refine ⟨hv1, hk2.from B, ⟨hb2, ?_⟩, _, hv2, htk ▸ hr2, fun g' e => ?_, hBl.trans hb2⟩
  · rw [Deep.blk_setCell_other _ _ _ _ (by dsimp only; omega), h3.block Bc (by simp; omega) (fun e => hg Bc e.symm rfl)]
    exact Below.heap_alloc W _ Bc (by omega)
  · cases e
    rcases h4 with h4 | rfl
    · exact hg g h4
    · show W.heap.size + 1 ≠ Bc
      omega

set_option maxRecDepth 100000 in
set_option maxHeartbeats 2000000 in
theorem appendSeqS (n : Nat) (hn : 1 ≤ n) (Bc n₀ : Nat) (c : Int) (h0c : 0 ≤ c) (h1c : c < 65536) (p0 : Option Addr) (k0 c0 : Nat) (xs : List Int) (w : World) (hn₀ : n₀ ≤ w.heap.size) (h0n : 0 < n₀) (hT : Tab w) (c1 : w.cell? ⟨Bc, 0, none⟩ = some (.int .i64 c))
    (hl : xs.length ≤ 1000000) (ho : Owns w n₀ (.slice p0 k0 c0) xs) (hne : ∀ g, (Value.slice p0 k0 c0).ownBlock = some g → g ≠ Bc) :
    CallsIn Fence.wide n Tryd.prog 25 #[.slice p0 k0 c0, .func (.func 33) #[] #[.pointer (some ⟨Bc, 0, none⟩)]] w fun e w' => ∃ v, e = .returned v ∧ Owns w' n₀ v (xs ++ signsP c) ∧ Below n₀ w w' := by
  have hBc := World.block_lt_of_cell? w _ c1
  dsimp only at hBc
  have hTl : (signsP c).length ≤ 6 := by
    unfold signsP
    cases shortOf c with
    | some s => simp
    | none =>
      dsimp only
      split
      · simp [hexL_len]
      · simp [hexL_len]
  have hg0 := grown_new w (.cells #[.slice p0 k0 c0] 25)
  have hb0 := Boxed.new w 25 (.slice p0 k0 c0)
  have hB0 : Below w.heap.size w (w.alloc (.cells #[.slice p0 k0 c0] 25)) := (Below.refl _ w).alloc (Nat.le_refl _) _
  have hs0 : (w.alloc (.cells #[.slice p0 k0 c0] 25)).heap.size = w.heap.size + 1 := by simp
  have SQ := signs_seq (n - 1) Bc n₀ c h0c h1c (w.alloc (.cells #[.slice p0 k0 c0] 25)) (by omega) h0n (hT.grown hg0) ((hB0.cell (p := ⟨Bc, 0, none⟩) hBc).trans c1)
  have ho0 : Owns (w.alloc (.cells #[.slice p0 k0 c0] 25)) n₀ (.slice p0 k0 c0) (xs ++ (signsP c).take 0) := by
    rw [List.take_zero, List.append_nil]; exact ho.alloc _
  refine callsIn_of_wp_marks Tryd.func25 rfl trivial ?_ rfl
  simp only [Tryd.ntmps25, List.size_toArray, List.length_cons, List.length_nil, Nat.reduceAdd, Nat.reduceSub, Array.replicate_succ, Array.replicate_zero, List.push_toArray, List.append_toArray, List.nil_append, List.cons_append]
  gi_wp2
  generalize w.alloc (.cells #[.slice p0 k0 c0] 25) = W0 at hb0 hB0 hs0 SQ ho0 ⊢
  clear hg0
  refine wpIn_rangeFuncT (gf := 33) (lb := #[.pointer (some ⟨Bc, 0, none⟩)]) rfl (enters_of Tryd.func33 (by kernel_rfl) rfl) SQ (fun h k => Kc.trans h k) (Kc.putObj (by omega) (by omega)) (Below.refl _ _) (fun _ => rfl)
    (Ig w n₀ Bc xs (signsP c)) (fun _ _ _ => False) (Ig.own _ (by omega) hn₀) (fun _ _ _ _ _ h => h.elim)
    ⟨_, hb0, ho0, hne, hB0.mono hn₀⟩
    (fun x => { tmps := #[.slice p0 k0 c0, .func (.func 33) #[] #[.pointer (some ⟨Bc, 0, none⟩)], .pointer (some ⟨w.heap.size, 0, none⟩), undef, .slice none 0 0, .int .i64 x, .func (.func 33) #[] #[.pointer (some ⟨Bc, 0, none⟩)], .int .i64 x, undef, undef, undef, undef, undef], defers := [] }) ?assign ?body ?done ?stop
  case assign =>
    intro m l x W K hK
    simp only [encI]
    gi_wp2
    exact hK
  case body =>
    rintro m l i x W hx ⟨v, hv, hoi, hg, hBl⟩
    have hcl := hv.cell
    obtain ⟨g, cap, w1, hrun, h2, h3, h4⟩ := push1 hoi (by have := hBl.size; omega) (by rw [List.length_append, List.length_take]; omega) x
    obtain ⟨hv1, HF⟩ := Ig_step (B := W0.heap.size) hn₀ hBc hx hv hoi hg hBl h2 h3 h4
    have hc1 := hv1.cell
    have hf1 := hv1.frozen
    obtain ⟨va, vk, vc, rfl⟩ := ownsRow_form hoi
    clear SQ hx h2 h3 h4
    generalize (xs ++ List.take i (signsP c)).length + 1 = kk at hrun HF
    gi_wp2_with (first | (gi_at_builtin; refine wpListIn_append_run rfl _ _ 25 rfl rfl rfl hrun ?_))
    exact HF.out
  case done =>
    rintro D W hD ⟨v, hv, hoi, -, hBl⟩ hK
    rw [List.take_length] at hoi
    obtain ⟨va, vk, vc, rfl⟩ := ownsRow_form hoi
    have hcl := hv.cell
    clear SQ
    gi_wp2
    refine ⟨by simp, .inl ⟨_, _, rfl, run_takeDeferred hK, ?_⟩⟩
    refine ⟨_, results_tmp rfl _ _ _, _, rfl, ?_, ?_⟩
    · exact ownsRow_putObj hoi _ hK rfl
    · exact hBl.trans (belowK_b (w := w) hn₀ W D _ _ (by omega) hK rfl rfl)
  case stop =>
    rintro D c' i W hD h hK
    exact h.elim
end Go.Proofs.YtpiefdpcinjkpaaDoor
