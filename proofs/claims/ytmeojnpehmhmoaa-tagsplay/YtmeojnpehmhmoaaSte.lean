/- The end of Scope.Set: the new row stands behind those that are kept. -/
import Derived.Test.YtmeojnpehmhmoaaSct
set_option linter.all false
set_option maxRecDepth 100000
namespace Go.Proofs.Ytmeojnpehmhmoaa
open Go.RowKit

theorem nd_more {D : List Mn} {h q : ByteArray} (hn : (D.map hB).Nodup) (ho : look D h = none) : ((D ++ [(h, q)]).map hB).Nodup := by
  rw [List.map_append, List.nodup_append]
  refine ⟨hn, by simp, ?_⟩
  intro a ha b hb e
  subst e
  simp at hb
  subst hb
  obtain ⟨y, hy, e⟩ := List.mem_map.1 ha
  unfold look at ho
  rw [Option.map_eq_none_iff] at ho
  have := List.find?_eq_none.1 ho y hy
  exact this (decide_eq_true e)
theorem rAt_take {R : List (List Mn)} {k i : Nat} (l : List Mn) (h : i < k) (hk : k ≤ R.length) : rAt (R.take k ++ [l]) i = rAt R i := by
  unfold rAt
  rw [List.getElem?_append_left (by rw [List.length_take]; omega), List.getElem?_take_of_lt h]
theorem rAt_last {R : List (List Mn)} {k : Nat} (l : List Mn) (hk : k ≤ R.length) : rAt (R.take k ++ [l]) k = l := by
  unfold rAt
  rw [List.getElem?_append_right (by rw [List.length_take]; omega), List.length_take, Nat.min_eq_left hk]
  simp
theorem srt_of {l : List Mn} (hs : ∀ i j, i < j → j < l.length → ¬ cfM (mAt l j) (mAt l i) < 0) (hn : (l.map hB).Nodup) : Srt l := by
  intro i j hij hj
  have h1 := hs i j hij hj
  unfold cfM at h1
  have h2 := cb_anti (hB (mAt l j)) (hB (mAt l i))
  by_cases h3 : Lib.compareBytes (hB (mAt l i)) (hB (mAt l j)) = 0
  · have h4 := cb_zero _ _ h3
    have hpw := List.pairwise_iff_getElem.1 hn
    exact absurd (by rw [List.getElem_map, List.getElem_map, ← mAt_get (by omega), ← mAt_get hj, h4]) (hpw i j (by simp; omega) (by simpa using hj) hij)
  · omega
theorem rd_more {R : List (List Mn)} {D : List Mn} {h q : ByteArray} {k : Nat} {row l' : List Mn} (hrd : RD R D) (hD : D.length ≤ 49) (ho : look D h = none) (hrow : row = (R.drop k).flatten ++ [(h, q)]) (hp : l'.Perm row)
    (hs : ∀ i j, i < j → j < l'.length → ¬ cfM (mAt l' j) (mAt l' i) < 0) : RD (R.take k ++ [l']) (D ++ [(h, q)]) := by
  have hpm : (R.take k ++ [l']).flatten.Perm (D ++ [(h, q)]) := by
    rw [List.flatten_append, show ([l'] : List (List Mn)).flatten = l' by simp]
    refine (List.Perm.append_left _ hp).trans ?_
    rw [hrow, ← List.append_assoc, ← List.flatten_append, List.take_append_drop]
    exact List.Perm.append_right _ hrd.perm
  have hnd := nd_more (q := q) hrd.nd ho
  have hnl : (l'.map hB).Nodup := by
    have := (hpm.map hB).nodup_iff.2 hnd
    rw [List.flatten_append, List.map_append, List.nodup_append] at this
    simpa using this.2.1
  refine ⟨fun r hr => ?_, fun r hr => ?_, hpm, by rw [List.length_append]; simp; omega, hnd⟩
  · rcases List.mem_append.1 hr with hr | hr
    · exact hrd.s r (List.mem_of_mem_take hr)
    · simp at hr; subst hr; exact srt_of hs hnl
  · rcases List.mem_append.1 hr with hr | hr
    · exact hrd.ne r (List.mem_of_mem_take hr)
    · simp at hr; subst hr
      rw [hp.length_eq, hrow, List.length_append]
      simp
theorem set_grown {w W : World} {b : Nat} {v : Value} (hB : Below w.heap.size w W) (hb : b < w.heap.size) : w.grownBy (W.setCell ⟨b, 0, none⟩ v) (some b) := by
  refine ⟨hB.os, hB.tape, hB.output, by simp [World.setCell]; exact hB.size, fun k hk hne => ?_⟩
  rw [Deep.blk_setCell_other _ _ _ _ (fun e => hne (by rw [show k = b from e]))]
  exact hB.block k hk
theorem set_end (N b cap k g c : Nat) (X : Nat → Prop) (p : Option Addr) (R : List (List Mn)) (D : List Mn) (h q : ByteArray) (w wr w4 : World) (row l' : List Mn)
    (hbN : b < N) (hNw : N ≤ w.heap.size) (hbox : Boxed w b 27 (.slice p R.length cap)) (hcap : R.length ≤ cap) (hX : ∀ k, X k → k < w.heap.size) (hrw : RwsN N X w p R) (hrd : RD R D) (hD : D.length ≤ 49) (ho : look D h = none)
    (hk : k ≤ R.length) (hB : Below w.heap.size w wr) (hO : OwnM wr w.heap.size (.slice (some ⟨g, 0, none⟩) row.length c) row) (hrow : row = (R.drop k).flatten ++ [(h, q)])
    (hp : l'.Perm row) (hs : ∀ i j, i < j → j < l'.length → ¬ cfM (mAt l' j) (mAt l' i) < 0) (hM : Mr w4 g l') (hg4 : wr.grownBy w4 (some g)) :
    ∃ v5 w5, (Builtin.append_ #[25, 25] 25 #[.slice p k k, .slice (some ⟨w4.heap.size, 0, none⟩) 1 1]).run Try.prog (w4.alloc (.cells #[.slice (some ⟨g, 0, none⟩) row.length c] 48)) = .ok v5 w5 ∧ Boxed w5 b 27 (.slice p R.length cap) ∧
      w.grownBy (w5.setCell ⟨b, 0, none⟩ v5) (some b) ∧ Sc N X (w5.setCell ⟨b, 0, none⟩ v5) b (D ++ [(h, q)]) ∧ ∃ G C, v5 = .slice (some ⟨G, 0, none⟩) (k + 1) C := by
  obtain ⟨-, hgc, hbg, hgs, -, -⟩ := own_mr hO
  have hB4 : Below w.heap.size w w4 := hB.grown hg4 hB.size (fun j e => by cases e; exact hbg)
  obtain ⟨wa, hwa⟩ : ∃ wa, w4.alloc (.cells #[.slice (some ⟨g, 0, none⟩) row.length c] 48) = wa := ⟨_, rfl⟩
  have hBa : Below w.heap.size w wa := by rw [← hwa]; exact hB4.alloc hB4.size _
  have hB4a : Below w4.heap.size w4 wa := by rw [← hwa]; exact (Below.refl _ w4).alloc (Nat.le_refl _) _
  have hca : wa.cell? ⟨w4.heap.size, 0, none⟩ = some (.slice (some ⟨g, 0, none⟩) row.length c) := by
    rw [← hwa]
    unfold World.cell?
    rw [World.alloc_heap_new]
    rfl
  rw [hwa]
  clear hwa
  have hRl : R.length ≤ 50 := by have := flat_ge R hrd.ne; have := hrd.flen; omega
  obtain ⟨i0, hi, hz0, hz1, hz2⟩ := info_parts Try.info48
  have hrwa : RwsN N X wa p R := hrw.kept (row := none) ⟨hBa.os, hBa.tape, hBa.output, hBa.size, fun k hk _ => hBa.block k hk⟩ (fun k e => by cases e)
  -- the slices of the rows that are kept
  have holds : ∃ olds : List Value, olds.length = k ∧ (Builtin.firstCells i0.size k (.slice p k k)).run Try.prog wa.drew = .ok olds.toArray wa.drew ∧
      ∀ i, i < k → ∃ gi ci, olds[i]? = some (.slice (some ⟨gi, 0, none⟩) (rAt R i).length ci) ∧ (rAt R i).length ≤ ci ∧ (N ≤ gi ∧ ¬ X gi) ∧ Mr wa gi (rAt R i) := by
    rcases hrwa with e | ⟨gg, rfl, hgN, hg⟩
    · subst e
      obtain rfl : k = 0 := by simpa using hk
      refine ⟨[], rfl, ?_, fun i hi => by omega⟩
      cases p with
      | none => exact run_firstCells_none wa.drew _ 0 0 0
      | some a => exact run_firstCells_some wa.drew _ 0 a 0 0 [] (by simp) (fun j u hu => by simp at hu)
    · refine ⟨(List.range k).map fun i => (wa.cell? ⟨gg, i, none⟩).getD undef, by simp, ?_, fun i hi => ?_⟩
      · refine run_firstCells_some wa.drew _ k ⟨gg, 0, none⟩ k k _ (by rw [hz1]; simp) (fun j u hu => ?_)
        have hj : j < k := by have := (List.getElem?_eq_some_iff.1 hu).1; simpa using this
        obtain ⟨gi, ci, h1, -⟩ := hg j (by omega)
        rw [List.getElem?_map, List.getElem?_range hj] at hu
        simp [h1] at hu
        subst hu
        rw [add_plain, Nat.zero_add]
        simpa using h1
      · obtain ⟨gi, ci, h1, h2, h3, h4⟩ := hg i (by omega)
        refine ⟨gi, ci, ?_, h2, h3, h4⟩
        rw [List.getElem?_map, List.getElem?_range hi]
        simp [h1]
  obtain ⟨olds, hol, hrun, hold⟩ := holds
  have SRC := Src.ofSlice wa (P := Try.prog) (size := i0.size) Try.underlying25 ⟨w4.heap.size, 0, none⟩ 1 1 [.slice (some ⟨g, 0, none⟩) row.length c] (by rw [hz1]; rfl) (fun j u hu => by
    cases j with
    | zero => simp at hu; subst hu; rw [add_plain]; exact hca
    | succ j => simp at hu) (fun u hu => by simp at hu; subst hu; rfl)
  have hnc : Builtin.nextslicecap (k + 1) k * i0.bytes ≤ 281474976710656 := by
    have := nextslicecap_le (need := k + 1) (old := k) (by omega)
    rw [hz2]
    omega
  have RUN := run_append_grow_src wa 25 25 25 48 i0 _ Try.underlying25 hi hz0 p k k olds hrun _ 1 _ SRC (by omega) (by omega) hnc
  have hge := grownCap_ge wa (k + 1) k 48
  generalize grownCap wa (k + 1) k 48 = C at RUN hge
  obtain ⟨ob, hob⟩ : ∃ ob, Obj.cells ((olds ++ [Value.slice (some ⟨g, 0, none⟩) row.length c]).toArray ++ Builtin.zeroCells (Value.slice none 0 0).cells (C - (k + 1))) 48 = ob := ⟨_, rfl⟩
  rw [hob] at RUN
  have hB5a : Below wa.heap.size wa (wa.drew.alloc ob) := ((Below.refl _ wa).drew).alloc (by simp) _
  have hB5 : Below w.heap.size w (wa.drew.alloc ob) := hBa.trans (hB5a.mono hBa.size)
  have hnew : (wa.drew.alloc ob).heap[wa.heap.size]? = some ob := World.alloc_heap_new wa.drew ob
  generalize wa.drew.alloc ob = w5 at RUN hB5a hB5 hnew
  have hbw : b < w.heap.size := Nat.lt_of_lt_of_le hbN hNw
  have hbx5 := boxed_below hbox hB5
  refine ⟨_, w5, RUN, hbx5, set_grown hB5 hbw, ⟨hbN, ?_, R.take k ++ [l'], some ⟨wa.heap.size, 0, none⟩, C, ?_, ?_, ?_, rd_more hrd hD ho hrow hp hs⟩, _, _, rfl⟩
  · have := hB5.size
    simp [World.setCell]
    omega
  · have e : (R.take k ++ [l']).length = k + 1 := by rw [List.length_append, List.length_take, Nat.min_eq_left hk]; rfl
    rw [e]
    exact hbx5.set _
  · have e : (R.take k ++ [l']).length = k + 1 := by rw [List.length_append, List.length_take, Nat.min_eq_left hk]; rfl
    rw [e]
    exact hge
  · have hga : wa.grownBy (w5.setCell ⟨b, 0, none⟩ (.slice (some ⟨wa.heap.size, 0, none⟩) (k + 1) C)) (some b) := set_grown hB5a (Nat.lt_of_lt_of_le hbw hBa.size)
    have hsa := hBa.size
    refine .inr ⟨wa.heap.size, rfl, ⟨by omega, fun h => by have := hX _ h; omega⟩, fun i hi => ?_⟩
    have hcell : ∀ i v, (olds ++ [Value.slice (some ⟨g, 0, none⟩) row.length c])[i]? = some v → (w5.setCell ⟨b, 0, none⟩ (.slice (some ⟨wa.heap.size, 0, none⟩) (k + 1) C)).cell? ⟨wa.heap.size, i, none⟩ = some v := by
      intro i v hv
      have e1 : (w5.setCell ⟨b, 0, none⟩ (.slice (some ⟨wa.heap.size, 0, none⟩) (k + 1) C)).heap[wa.heap.size]? = w5.heap[wa.heap.size]? := Deep.blk_setCell_other _ _ _ _ (by dsimp only; omega)
      rw [World.cell?_of_block e1]
      unfold World.cell?
      rw [hnew, ← hob]
      have hlt := (List.getElem?_eq_some_iff.1 hv).1
      dsimp only
      have e2 : ((olds ++ [Value.slice (some ⟨g, 0, none⟩) row.length c]).toArray ++ Builtin.zeroCells (Value.slice none 0 0).cells (C - (k + 1)))[i]? = some v := by
        rw [Array.getElem?_append_left (by simpa using hlt), List.getElem?_toArray]
        exact hv
      simpa using e2
    rw [List.length_append, List.length_take, Nat.min_eq_left hk] at hi
    by_cases hik : i < k
    · obtain ⟨gi, ci, h1, h2, h3, h4⟩ := hold i hik
      rw [rAt_take l' hik hk]
      exact ⟨gi, ci, hcell i _ (by rw [List.getElem?_append_left (by omega)]; exact h1), h2, h3, h4.kept hga (fun e => by cases e; omega)⟩
    · obtain rfl : i = k := by simp at hi; omega
      rw [rAt_last l' hk]
      refine ⟨g, c, ?_, by rw [hp.length_eq]; exact hgc, ⟨by omega, fun h => by have := hX _ h; omega⟩, (hM.on hB4a).kept hga (fun e => by cases e; omega)⟩
      rw [hp.length_eq]
      exact hcell i _ (by rw [List.getElem?_append_right (by omega), hol]; simp)
end Go.Proofs.Ytmeojnpehmhmoaa
