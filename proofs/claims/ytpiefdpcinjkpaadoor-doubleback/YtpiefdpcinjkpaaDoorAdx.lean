/- add: how a round ends, and how the call does. -/
import Derived.Test.YtpiefdpcinjkpaaDoorOps
set_option linter.unusedVariables false
set_option linter.unusedSimpArgs false
namespace Go.Proofs.YtpiefdpcinjkpaaDoor
open Go.RowKit Go.Shelf

theorem round_fin {n₀ D s i at' sz f : Nat} {Y : Nat → Prop} {W0 W W7 : World} {vl vc' vm' : Value} {R : List Row} {sl : Value} {T cur mt ln mn u : List Int} {opn : Bool} {es : List (Nat × Esc)} {pt : Int} (a : Act)
    (hd : Dr n₀ D Y W7 vl vc' vm' R (ln ++ u ++ [92]) opn (mn ++ [pt])) (H0 : Boxed W7 s 55 (.pointer (some ⟨D, 0, none⟩))) (H1 : Boxed W7 (s + 1) 25 sl) (H2 : Boxed W7 (s + 1 + 1) 26 (.int .i64 0)) (H3 : Boxed W7 (s + 1 + 1 + 1) 3 (.int .i64 (f : Nat)))
    (X0 : Y s) (X1 : Y (s + 1)) (X2 : Y (s + 1 + 1)) (X3 : Y (s + 1 + 1 + 1)) (X4 : Y (s + 1 + 1 + 1 + 1)) (X5 : Y (s + 1 + 1 + 1 + 1 + 1)) (hns : n₀ ≤ s)
    (k7 : Kb n₀ (s + 1 + 1 + 1 + 1) (s + 1 + 1 + 1 + 1 + 1) W W7) (hbW : Below n₀ W0 W) (HDS : dsAt T cur mt es (i + 1) = dstep T ⟨ln, mn, opn, f⟩ (at', ⟨sz, pt, 0⟩)) (HU : (T.drop f).take (at' - f) = u)
    (OK1 : ∀ j y, j < i + 1 → es[j]? = some y → y.2.fault = 0) (B : Nat) :
    postT B (Ke n₀ (s + 1 + 1 + 1 + 1) (s + 1 + 1 + 1 + 1 + 1)) (Iad n₀ D Y s W0 vl R sl T cur mt es) (Ixd n₀ s W0 es) (i + 1) W .normal a ((W7.setCell ⟨D, 2, none⟩ (.bool (pt == -1))).setCell ⟨s + 1 + 1 + 1, 0, none⟩ (.int .i64 ((at' : Int) + (sz : Int)))) := by
  have hd8 := hd.setOpen (pt == -1)
  have k8 := k7.trans (hd.kbD X4 X5 W7 (Nat.le_refl _) hd.blk 2 (.bool (pt == -1)))
  have J0 := hd.boxD 2 (.bool (pt == -1)) X0 H0
  have J1 := hd.boxD 2 (.bool (pt == -1)) X1 H1
  have J2 := hd.boxD 2 (.bool (pt == -1)) X2 H2
  have J3 := hd.boxD 2 (.bool (pt == -1)) X3 H3
  generalize W7.setCell ⟨D, 2, none⟩ (.bool (pt == -1)) = W8 at hd8 k8 J0 J1 J2 J3 ⊢
  have k9 : Kb n₀ (s + 1 + 1 + 1 + 1) (s + 1 + 1 + 1 + 1 + 1) W (W8.setCell ⟨s + 1 + 1 + 1, 0, none⟩ (.int .i64 ((at' : Int) + (sz : Int)))) :=
    k8.trans (Kb.step (set_row W8 ⟨s + 1 + 1 + 1, 0, none⟩ _) hd8.size (hd8.xs _ X4).1 (hd8.xs _ X5).1 (fun r e => by
      cases e
      exact ⟨by show n₀ ≤ s + 1 + 1 + 1; omega, by show s + 1 + 1 + 1 ≠ _; omega, by show s + 1 + 1 + 1 ≠ _; omega, _, 3, _, J3, by decide⟩))
  have hd9 := hd8.setX (a := ⟨s + 1 + 1 + 1, 0, none⟩) X3 (.int .i64 ((at' : Int) + (sz : Int)))
  refine ⟨k9.o.from _, k9.e, ⟨⟨vc', vm', ?_⟩, OK1, J0.other (by omega) _, J1.other (by omega) _, J2.other (by omega) _, ?_, hbW.trans k9.e.below⟩⟩
  · rw [HDS]
    show Dr n₀ D Y _ vl vc' vm' R (ln ++ (T.drop f).take (at' - f) ++ [92]) (pt == -1) (mn ++ [pt])
    rw [HU]
    exact hd9
  · rw [HDS]
    show Boxed _ _ 3 (.int .i64 ((at' + sz : Nat) : Int))
    rw [Int.natCast_add]
    exact J3.set _

theorem round_ret {n₀ D s i ft : Nat} {Y : Nat → Prop} {W0 W : World} {vl vc vm : Value} {R : List Row} {sl : Value} {T cur mt ln mn : List Int} {opn : Bool} {es : List (Nat × Esc)} (a : Act)
    (hd : Dr n₀ D Y W vl vc vm R ln opn mn) (A2 : Boxed W (s + 1 + 1) 26 (.int .i64 0)) (X4 : Y (s + 1 + 1 + 1 + 1)) (X5 : Y (s + 1 + 1 + 1 + 1 + 1)) (hns : n₀ ≤ s) (hbW : Below n₀ W0 W) (hf : ft ≠ 0) (hfl : faultOf es = ft) (B : Nat) :
    postT B (Ke n₀ (s + 1 + 1 + 1 + 1) (s + 1 + 1 + 1 + 1 + 1)) (Iad n₀ D Y s W0 vl R sl T cur mt es) (Ixd n₀ s W0 es) (i + 1) W .ret a (W.setCell ⟨s + 1 + 1, 0, none⟩ (.int .i64 (ft : Nat))) := by
  have k9 : Kb n₀ (s + 1 + 1 + 1 + 1) (s + 1 + 1 + 1 + 1 + 1) W (W.setCell ⟨s + 1 + 1, 0, none⟩ (.int .i64 (ft : Nat))) :=
    Kb.step (set_row W ⟨s + 1 + 1, 0, none⟩ _) hd.size (hd.xs _ X4).1 (hd.xs _ X5).1 (fun r e => by
      cases e
      exact ⟨by show n₀ ≤ s + 1 + 1; omega, by show s + 1 + 1 ≠ _; omega, by show s + 1 + 1 ≠ _; omega, _, 26, _, A2, by decide⟩)
  exact ⟨k9.o.from _, rfl, by rw [hfl]; exact hf, by rw [hfl]; exact A2.set _, hbW.trans k9.e.below⟩

theorem Dr.kbL {n₀ D B1 B2 : Nat} {X : Nat → Prop} {W W1 : World} {vl vc vm : Value} {R : List Row} {cur mt : List Int} {op : Bool} (h : Dr n₀ D X W vl vc vm R cur op mt) (x1 : X B1) (x2 : X B2) (hg : W.grownBy W1 vl.ownBlock) : Kb n₀ B1 B2 W W1 :=
  Kb.step hg h.size (h.xs B1 x1).1 (h.xs B2 x2).1 (fun r e => by
    obtain ⟨h1, -, cu, h2⟩ := ownsM_cells h.l e
    exact ⟨h1, fun ee => (h.xs B1 x1).2.2.1 (ee ▸ e), fun ee => (h.xs B2 x2).2.2.1 (ee ▸ e), cu, 25, _, h2, by decide⟩)

theorem results_box {fn : Func} {p : Tmp} (h : fn.results = #[.cell p 26]) {tmps : Array Value} {W : World} {b : Nat} {v : Value} (hp : tmps.getD p undef = .pointer (some ⟨b, 0, none⟩)) (hv : Boxed W b 26 v) :
    (results fn tmps).run Tryd.prog W = .ok v W := by
  have hp' : tmps[p]?.getD undef = .pointer (some ⟨b, 0, none⟩) := by simpa using hp
  have c := hv.cell
  simp [results, h, hp', asAddr, go_sem, c]
end Go.Proofs.YtpiefdpcinjkpaaDoor
