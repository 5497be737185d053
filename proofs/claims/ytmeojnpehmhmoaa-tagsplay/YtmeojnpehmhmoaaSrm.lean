/- A row of handles, sorted. -/
import Derived.Test.YtmeojnpehmhmoaaLsr
import Derived.Test.YtmeojnpehmhmoaaBsf
set_option linter.all false
set_option maxRecDepth 100000
namespace Go.Proofs.Ytmeojnpehmhmoaa
open Go.Shelf Go.RowKit Go.Lib Go.Sort

def encM (x : Mn) : List Value := [.string x.1, .string x.2]
set_option maxHeartbeats 800000 in
theorem order_any (x y : Mn) (W : World) : Calls Try.prog 17 #[.agg #[.string x.1, .string x.2], .agg #[.string y.1, .string y.2]] W fun e w' => e = .returned (.int .i64 (cfM x y)) ∧ ∃ q os', w' = grow (W.drewN q) os' := by
  have H := fun W' => cmp_any x.1 y.1 W'
  have e : Lib.compareBytes x.1.data.toList y.1.data.toList = cfM x y := rfl
  rw [e] at H
  generalize cfM x y = r at H ⊢
  go_enter Try.func17, Try.ntmps17
  go_wp2_with (go_at_call 18; refine (H _).mono ?_; rintro e w' ⟨rfl, rfl⟩)
  go_ret
  exact ⟨rfl, 0, _, by rw [alloc_eq_grow, alloc_eq_grow, grow_grow]; rfl⟩
theorem order_lays (blk off size : Nat) (w : World) : CmpLays Try.prog 17 #[] encM 2 cfM blk off size w :=
  fun _ _ _ _ x y => order_any x y _
theorem arr_at (l : List Mn) (i : Nat) (h : i < l.length) : l.toArray[i]! = mAt l i := by
  rw [mAt_get h, getElem!_pos l.toArray i (by simpa using h)]
  simp
theorem grown_sorted {w : World} {g n : Nat} {os : Array Obj} (d : Array Mn) : w.grownBy (sortWorldK encM 2 w g 0 n d os) (some g) := by
  unfold sortWorldK putRowK
  refine ⟨rfl, rfl, rfl, by simp [Sort.ahead], fun k hk hne => ?_⟩
  rw [heap_grow_old _ _ (by simpa [Sort.ahead] using hk)]
  have : g ≠ k := fun e => hne (by rw [e])
  simp [putRow, mapBlock, Sort.ahead, Array.getElem?_modify, this]
theorem flat_two (d : Array Mn) (j : Nat) (h : j < d.size) : (flatK encM 2 d)[j * 2]! = .string d[j]!.1 ∧ (flatK encM 2 d)[j * 2 + 1]! = .string d[j]!.2 := by
  have e1 : j * 2 / 2 = j := by omega
  have e2 : j * 2 % 2 = 0 := by omega
  have e3 : (j * 2 + 1) / 2 = j := by omega
  have e4 : (j * 2 + 1) % 2 = 1 := by omega
  rw [get_flatK _ _ _ _ (by omega), get_flatK _ _ _ _ (by omega), e1, e2, e3, e4]
  exact ⟨rfl, rfl⟩
theorem mr_of_holds {w : World} {g : Nat} {l : List Mn} (h : HoldsK encM 2 w g 0 l.toArray) : Mr w g l := fun j hj => by
  have h1 := (h (j * 2) (by simp; omega)).1
  have h2 := (h (j * 2 + 1) (by simp; omega)).1
  obtain ⟨f1, f2⟩ := flat_two l.toArray j (by simpa using hj)
  rw [f1, arr_at l j hj] at h1
  rw [f2, arr_at l j hj] at h2
  rw [Nat.zero_add] at h1 h2
  exact ⟨h1, h2⟩
theorem holds_of_mr {w : World} {g : Nat} {l : List Mn} (h : Mr w g l) (hf : ∀ j, w.frozen? ⟨g, j, none⟩ = false) : HoldsK encM 2 w g 0 l.toArray := fun j hj => by
  rw [size_flatK] at hj
  simp at hj
  have hk : j / 2 < l.length := by omega
  obtain ⟨f1, f2⟩ := flat_two l.toArray (j / 2) (by simpa using hk)
  obtain ⟨h1, h2⟩ := h (j / 2) hk
  rw [arr_at l _ hk] at f1 f2
  rw [Nat.zero_add]
  refine ⟨?_, hf j⟩
  by_cases hp : j % 2 = 0
  · have e : j / 2 * 2 = j := by omega
    rw [e] at f1 h1
    rw [f1, h1]
    rfl
  · have e : j / 2 * 2 + 1 = j := by omega
    rw [e] at f2 h2
    rw [f2, h2]
    rfl
theorem sort_any (g cap : Nat) (l : List Mn) (w : World) (hM : Mr w g l) (hf : ∀ j, w.frozen? ⟨g, j, none⟩ = false) (hg : g < w.heap.size) (hl : l.length ≤ 1000) :
    Calls Try.prog 16 #[.slice (some ⟨g, 0, none⟩) l.length cap, .func (.func 17) #[] #[]] w fun e w' =>
      e = .returned (.tuple #[]) ∧ ∃ l' : List Mn, l'.Perm l ∧ (∀ i j, i < j → j < l'.length → ¬ cfM (mAt l' j) (mAt l' i) < 0) ∧ Mr w' g l' ∧ w.grownBy w' (some g) := by
  have eg : ∀ args w, (callFunc 17 args).run Try.prog w = .ok (.enter 17 args) w := enters_of Try.func17 (by kernel_rfl) rfl
  have hH := holds_of_mr hM hf
  have hcon := AnyQ.slices_SortFunc srtLays 2 Try.isAgg47 Try.sizeOf47 encM (fun _ => rfl) (fun x v hv => by simp [encM] at hv; rcases hv with rfl | rfl <;> rfl) cfM swoM 17 #[] g 0 cap l.toArray w eg (order_lays g 0 _ w) hH hg (by simp; omega)
  rw [List.size_toArray] at hcon
  refine (show Calls Try.prog 16 _ _ _ from hcon).mono ?_
  rintro e w' ⟨rfl, d', n, os, hP, hS, rfl⟩
  refine ⟨rfl, d'.toList, ?_, ?_, ?_, grown_sorted d'⟩
  · have h3 := hP.2.2
    have h1 := hP.1
    simp at h1
    have e1 : (d'.extract 0 l.length).toList = d'.toList := by rw [← h1]; simp
    have e2 : (l.toArray.extract 0 l.length).toList = l := by simp
    rw [e1, e2] at h3
    exact h3
  · intro i j hij hj hc
    have h1 := hP.1
    simp at h1 hj
    have := hS i j (Nat.zero_le _) hij (by omega)
    have ei := arr_at d'.toList i (by simp; omega)
    have ej := arr_at d'.toList j (by simpa using hj)
    rw [Array.toArray_toList] at ei ej
    rw [ei, ej] at this
    unfold ltOf at this
    exact of_decide_eq_false this hc
  · have h1 := hP.1
    have hH2 := holdsK_sortWorldK_c encM 2 w g 0 l.toArray d' n os hH hg h1
    exact mr_of_holds (l := d'.toList) (by rw [Array.toArray_toList]; exact hH2)
end Go.Proofs.Ytmeojnpehmhmoaa
