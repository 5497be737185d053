/- slices.SortFunc over a row of handles: the shelf's contract, laid at this program's numbers. A row of handles, sorted. -/
import Derived.Shelf.SlSortCmp.WholeK
import Derived.Test.YtmeojnpehmhmoaaCmp
import Derived.Test.YtmeojnpehmhmoaaBsf
set_option linter.all false
namespace Go.Proofs.Ytmeojnpehmhmoaa
open Go.Shelf Go.RowKit Go.Lib Go.Sort
def srtRen : Go.Shelf.Ren := ⟨fun | 6 => 16 | 14 => 34 | 15 => 35 | 20 => 49 | 21 => 50 | 22 => 51 | 23 => 52 | 24 => 53 | 25 => 54 | 26 => 55 | 27 => 56 | 28 => 57 | 29 => 58 | 46 => 73 | 47 => 74 | 48 => 75 | 49 => 76 | 50 => 77 | 57 => 87 | n => n, fun | 0 => 0 | 3 => 3 | 4 => 4 | 5 => 5 | 9 => 9 | 22 => 48 | 25 => 52 | 39 => 67 | 45 => 82 | 46 => 83 | 50 => 61 | 53 => 89 | 55 => 91 | 66 => 100 | 70 => 104 | 76 => 114 | 77 => 98 | 24 => 47 | n => n, fun | n => n⟩
theorem srtLays : Go.Proofs.SlLaysF0.n6 Try.prog srtRen := {
  mixed := by kernel_rfl
  f6 := ⟨Try.f16.name, by kernel_rfl, Try.func16.trans (congrArg some (by kernel_rfl))⟩
  f14 := ⟨Try.f34.name, by kernel_rfl, Try.func34.trans (congrArg some (by kernel_rfl))⟩
  f15 := Try.func35.trans (congrArg some (by kernel_rfl))
  f20 := ⟨Try.f49.name, by kernel_rfl, Try.func49.trans (congrArg some (by kernel_rfl))⟩
  f21 := ⟨Try.f50.name, by kernel_rfl, Try.func50.trans (congrArg some (by kernel_rfl))⟩
  f22 := ⟨Try.f51.name, by kernel_rfl, Try.func51.trans (congrArg some (by kernel_rfl))⟩
  f23 := ⟨Try.f52.name, by kernel_rfl, Try.func52.trans (congrArg some (by kernel_rfl))⟩
  f24 := ⟨Try.f53.name, by kernel_rfl, Try.func53.trans (congrArg some (by kernel_rfl))⟩
  f25 := ⟨Try.f54.name, by kernel_rfl, Try.func54.trans (congrArg some (by kernel_rfl))⟩
  f26 := ⟨Try.f55.name, by kernel_rfl, Try.func55.trans (congrArg some (by kernel_rfl))⟩
  f27 := ⟨Try.f56.name, by kernel_rfl, Try.func56.trans (congrArg some (by kernel_rfl))⟩
  f28 := Try.func57.trans (congrArg some (by kernel_rfl))
  f29 := Try.func58.trans (congrArg some (by kernel_rfl))
  f46 := ⟨Try.f73.name, by kernel_rfl, Try.func73.trans (congrArg some (by kernel_rfl))⟩
  f47 := Try.func74.trans (congrArg some (by kernel_rfl))
  f48 := Try.func75.trans (congrArg some (by kernel_rfl))
  f49 := ⟨Try.f76.name, by kernel_rfl, Try.func76.trans (congrArg some (by kernel_rfl))⟩
  f50 := ⟨Try.f77.name, by kernel_rfl, Try.func77.trans (congrArg some (by kernel_rfl))⟩
  f57 := ⟨Try.f87.name, by kernel_rfl, Try.func87.trans (congrArg some (by kernel_rfl))⟩
  t0 := Try.underlying0
  a0 := Try.isAgg0
  z0 := Try.sizeOf0
  v0 := Try.zeroValue0
  t3 := Try.underlying3
  a3 := Try.isAgg3
  z3 := Try.sizeOf3
  v3 := Try.zeroValue3
  t4 := Try.underlying4
  a4 := Try.isAgg4
  z4 := Try.sizeOf4
  v4 := Try.zeroValue4
  t5 := Try.underlying5
  a5 := Try.isAgg5
  z5 := Try.sizeOf5
  v5 := Try.zeroValue5
  t9 := Try.underlying9
  a9 := Try.isAgg9
  z9 := Try.sizeOf9
  v9 := Try.zeroValue9
  t22 := Try.underlying48
  a22 := Try.isAgg48
  z22 := Try.sizeOf48
  v22 := Try.zeroValue48
  t25 := Try.underlying52
  a25 := Try.isAgg52
  z25 := Try.sizeOf52
  v25 := Try.zeroValue52
  t39 := Try.underlying67
  a39 := Try.isAgg67
  z39 := Try.sizeOf67
  v39 := Try.zeroValue67
  t45 := Try.underlying82
  a45 := Try.isAgg82
  z45 := Try.sizeOf82
  v45 := Try.zeroValue82
  t46 := Try.underlying83
  a46 := Try.isAgg83
  z46 := Try.sizeOf83
  v46 := Try.zeroValue83
  t50 := Try.underlying61
  a50 := Try.isAgg61
  z50 := Try.sizeOf61
  v50 := Try.zeroValue61
  t53 := Try.underlying89
  a53 := Try.isAgg89
  z53 := Try.sizeOf89
  v53 := Try.zeroValue89
  t55 := Try.underlying91
  a55 := Try.isAgg91
  z55 := Try.sizeOf91
  v55 := Try.zeroValue91
  t66 := Try.underlying100
  a66 := Try.isAgg100
  z66 := Try.sizeOf100
  v66 := Try.zeroValue100
  t70 := Try.underlying104
  a70 := Try.isAgg104
  z70 := Try.sizeOf104
  v70 := Try.zeroValue104
  t76 := Try.underlying114
  a76 := Try.isAgg114
  z76 := Try.sizeOf114
  v76 := Try.zeroValue114
  t77 := Try.underlying98
  a77 := Try.isAgg98
  z77 := Try.sizeOf98
  v77 := Try.zeroValue98 }
end Go.Proofs.Ytmeojnpehmhmoaa
set_option linter.all false
set_option maxRecDepth 100000
namespace Go.Proofs.Ytmeojnpehmhmoaa
open Go.Shelf Go.RowKit Go.Lib Go.Sort

def encM (x : Mn) : List Value := [.string x.1, .string x.2]
set_option maxHeartbeats 800000 in
theorem order_any (x y : Mn) (W : World) : Calls Try.prog 17 #[.agg #[.string x.1, .string x.2], .agg #[.string y.1, .string y.2]] W fun e w' => e = .returned (.int .i64 (cfM x y)) ∧ ∃ q os', w' = grow (W.drewN q) os' := by
  have H := fun W' => cmp_any x.1 y.1 W'
  have e : Lib.compareBytes x.1.data.toList y.1.data.toList = cfM x y := rfl
  rw [e] at H
  generalize cfM x y = r at H ⊢
  go_enter Try.func17, Try.ntmps17
  go_wp2_with (go_at_call 18; refine (H _).mono ?_; rintro e w' ⟨rfl, rfl⟩)
  go_ret
  exact ⟨rfl, 0, _, by rw [alloc_eq_grow, alloc_eq_grow, grow_grow]; rfl⟩
theorem order_lays (blk off size : Nat) (w : World) : CmpLays Try.prog 17 #[] encM 2 cfM blk off size w :=
  fun _ _ _ _ x y => order_any x y _
theorem arr_at (l : List Mn) (i : Nat) (h : i < l.length) : l.toArray[i]! = mAt l i := by
  rw [mAt_get h, getElem!_pos l.toArray i (by simpa using h)]
  simp
theorem grown_sorted {w : World} {g n : Nat} {os : Array Obj} (d : Array Mn) : w.grownBy (sortWorldK encM 2 w g 0 n d os) (some g) := by
  unfold sortWorldK putRowK
  refine ⟨rfl, rfl, rfl, by simp [Sort.ahead], fun k hk hne => ?_⟩
  rw [heap_grow_old _ _ (by simpa [Sort.ahead] using hk)]
  have : g ≠ k := fun e => hne (by rw [e])
  simp [putRow, mapBlock, Sort.ahead, Array.getElem?_modify, this]
theorem flat_two (d : Array Mn) (j : Nat) (h : j < d.size) : (flatK encM 2 d)[j * 2]! = .string d[j]!.1 ∧ (flatK encM 2 d)[j * 2 + 1]! = .string d[j]!.2 := by
  have e1 : j * 2 / 2 = j := by omega
  have e2 : j * 2 % 2 = 0 := by omega
  have e3 : (j * 2 + 1) / 2 = j := by omega
  have e4 : (j * 2 + 1) % 2 = 1 := by omega
  rw [get_flatK _ _ _ _ (by omega), get_flatK _ _ _ _ (by omega), e1, e2, e3, e4]
  exact ⟨rfl, rfl⟩
theorem mr_of_holds {w : World} {g : Nat} {l : List Mn} (h : HoldsK encM 2 w g 0 l.toArray) : Mr w g l := fun j hj => by
  have h1 := (h (j * 2) (by simp; omega)).1
  have h2 := (h (j * 2 + 1) (by simp; omega)).1
  obtain ⟨f1, f2⟩ := flat_two l.toArray j (by simpa using hj)
  rw [f1, arr_at l j hj] at h1
  rw [f2, arr_at l j hj] at h2
  rw [Nat.zero_add] at h1 h2
  exact ⟨h1, h2⟩
theorem holds_of_mr {w : World} {g : Nat} {l : List Mn} (h : Mr w g l) (hf : ∀ j, w.frozen? ⟨g, j, none⟩ = false) : HoldsK encM 2 w g 0 l.toArray := fun j hj => by
  rw [size_flatK] at hj
  simp at hj
  have hk : j / 2 < l.length := by omega
  obtain ⟨f1, f2⟩ := flat_two l.toArray (j / 2) (by simpa using hk)
  obtain ⟨h1, h2⟩ := h (j / 2) hk
  rw [arr_at l _ hk] at f1 f2
  rw [Nat.zero_add]
  refine ⟨?_, hf j⟩
  by_cases hp : j % 2 = 0
  · have e : j / 2 * 2 = j := by omega
    rw [e] at f1 h1
    rw [f1, h1]
    rfl
  · have e : j / 2 * 2 + 1 = j := by omega
    rw [e] at f2 h2
    rw [f2, h2]
    rfl
theorem sort_any (g cap : Nat) (l : List Mn) (w : World) (hM : Mr w g l) (hf : ∀ j, w.frozen? ⟨g, j, none⟩ = false) (hg : g < w.heap.size) (hl : l.length ≤ 1000) :
    Calls Try.prog 16 #[.slice (some ⟨g, 0, none⟩) l.length cap, .func (.func 17) #[] #[]] w fun e w' =>
      e = .returned (.tuple #[]) ∧ ∃ l' : List Mn, l'.Perm l ∧ (∀ i j, i < j → j < l'.length → ¬ cfM (mAt l' j) (mAt l' i) < 0) ∧ Mr w' g l' ∧ w.grownBy w' (some g) := by
  have eg : ∀ args w, (callFunc 17 args).run Try.prog w = .ok (.enter 17 args) w := enters_of Try.func17 (by kernel_rfl) rfl
  have hH := holds_of_mr hM hf
  have hcon := AnyQ.slices_SortFunc srtLays 2 Try.isAgg47 Try.sizeOf47 encM (fun _ => rfl) (fun x v hv => by simp [encM] at hv; rcases hv with rfl | rfl <;> rfl) cfM swoM 17 #[] g 0 cap l.toArray w eg (order_lays g 0 _ w) hH hg (by simp; omega)
  rw [List.size_toArray] at hcon
  refine (show Calls Try.prog 16 _ _ _ from hcon).mono ?_
  rintro e w' ⟨rfl, d', n, os, hP, hS, rfl⟩
  refine ⟨rfl, d'.toList, ?_, ?_, ?_, grown_sorted d'⟩
  · have h3 := hP.2.2
    have h1 := hP.1
    simp at h1
    have e1 : (d'.extract 0 l.length).toList = d'.toList := by rw [← h1]; simp
    have e2 : (l.toArray.extract 0 l.length).toList = l := by simp
    rw [e1, e2] at h3
    exact h3
  · intro i j hij hj hc
    have h1 := hP.1
    simp at h1 hj
    have := hS i j (Nat.zero_le _) hij (by omega)
    have ei := arr_at d'.toList i (by simp; omega)
    have ej := arr_at d'.toList j (by simpa using hj)
    rw [Array.toArray_toList] at ei ej
    rw [ei, ej] at this
    unfold ltOf at this
    exact of_decide_eq_false this hc
  · have h1 := hP.1
    have hH2 := holdsK_sortWorldK_c encM 2 w g 0 l.toArray d' n os hH hg h1
    exact mr_of_holds (l := d'.toList) (by rw [Array.toArray_toList]; exact hH2)
end Go.Proofs.Ytmeojnpehmhmoaa
