/- The end of Scope.Set: the new row stands behind those that are kept. Scope.Set, as it runs. -/
import Derived.Test.YtmeojnpehmhmoaaSct
set_option linter.all false
set_option maxRecDepth 100000
namespace Go.Proofs.Ytmeojnpehmhmoaa
open Go.RowKit

theorem nd_more {D : List Mn} {h q : ByteArray} (hn : (D.map hB).Nodup) (ho : look D h = none) : ((D ++ [(h, q)]).map hB).Nodup := by
  rw [List.map_append, List.nodup_append]
  refine ⟨hn, by simp, ?_⟩
  intro a ha b hb e
  subst e
  simp at hb
  subst hb
  obtain ⟨y, hy, e⟩ := List.mem_map.1 ha
  unfold look at ho
  rw [Option.map_eq_none_iff] at ho
  have := List.find?_eq_none.1 ho y hy
  exact this (decide_eq_true e)
theorem rAt_take {R : List (List Mn)} {k i : Nat} (l : List Mn) (h : i < k) (hk : k ≤ R.length) : rAt (R.take k ++ [l]) i = rAt R i := by
  unfold rAt
  rw [List.getElem?_append_left (by rw [List.length_take]; omega), List.getElem?_take_of_lt h]
theorem rAt_last {R : List (List Mn)} {k : Nat} (l : List Mn) (hk : k ≤ R.length) : rAt (R.take k ++ [l]) k = l := by
  unfold rAt
  rw [List.getElem?_append_right (by rw [List.length_take]; omega), List.length_take, Nat.min_eq_left hk]
  simp
theorem srt_of {l : List Mn} (hs : ∀ i j, i < j → j < l.length → ¬ cfM (mAt l j) (mAt l i) < 0) (hn : (l.map hB).Nodup) : Srt l := by
  intro i j hij hj
  have h1 := hs i j hij hj
  unfold cfM at h1
  have h2 := cb_anti (hB (mAt l j)) (hB (mAt l i))
  by_cases h3 : Lib.compareBytes (hB (mAt l i)) (hB (mAt l j)) = 0
  · have h4 := cb_zero _ _ h3
    have hpw := List.pairwise_iff_getElem.1 hn
    exact absurd (by rw [List.getElem_map, List.getElem_map, ← mAt_get (by omega), ← mAt_get hj, h4]) (hpw i j (by simp; omega) (by simpa using hj) hij)
  · omega
theorem rd_more {R : List (List Mn)} {D : List Mn} {h q : ByteArray} {k : Nat} {row l' : List Mn} (hrd : RD R D) (hD : D.length ≤ 49) (ho : look D h = none) (hrow : row = (R.drop k).flatten ++ [(h, q)]) (hp : l'.Perm row)
    (hs : ∀ i j, i < j → j < l'.length → ¬ cfM (mAt l' j) (mAt l' i) < 0) : RD (R.take k ++ [l']) (D ++ [(h, q)]) := by
  have hpm : (R.take k ++ [l']).flatten.Perm (D ++ [(h, q)]) := by
    rw [List.flatten_append, show ([l'] : List (List Mn)).flatten = l' by simp]
    refine (List.Perm.append_left _ hp).trans ?_
    rw [hrow, ← List.append_assoc, ← List.flatten_append, List.take_append_drop]
    exact List.Perm.append_right _ hrd.perm
  have hnd := nd_more (q := q) hrd.nd ho
  have hnl : (l'.map hB).Nodup := by
    have := (hpm.map hB).nodup_iff.2 hnd
    rw [List.flatten_append, List.map_append, List.nodup_append] at this
    simpa using this.2.1
  refine ⟨fun r hr => ?_, fun r hr => ?_, hpm, by rw [List.length_append]; simp; omega, hnd⟩
  · rcases List.mem_append.1 hr with hr | hr
    · exact hrd.s r (List.mem_of_mem_take hr)
    · simp at hr; subst hr; exact srt_of hs hnl
  · rcases List.mem_append.1 hr with hr | hr
    · exact hrd.ne r (List.mem_of_mem_take hr)
    · simp at hr; subst hr
      rw [hp.length_eq, hrow, List.length_append]
      simp
theorem set_grown {w W : World} {b : Nat} {v : Value} (hB : Below w.heap.size w W) (hb : b < w.heap.size) : w.grownBy (W.setCell ⟨b, 0, none⟩ v) (some b) := by
  refine ⟨hB.os, hB.tape, hB.output, by simp [World.setCell]; exact hB.size, fun k hk hne => ?_⟩
  rw [Deep.blk_setCell_other _ _ _ _ (fun e => hne (by rw [show k = b from e]))]
  exact hB.block k hk
theorem set_end (N b cap k g c : Nat) (X : Nat → Prop) (p : Option Addr) (R : List (List Mn)) (D : List Mn) (h q : ByteArray) (w wr w4 : World) (row l' : List Mn)
    (hbN : b < N) (hNw : N ≤ w.heap.size) (hbox : Boxed w b 27 (.slice p R.length cap)) (hcap : R.length ≤ cap) (hX : ∀ k, X k → k < w.heap.size) (hrw : RwsN N X w p R) (hrd : RD R D) (hD : D.length ≤ 49) (ho : look D h = none)
    (hk : k ≤ R.length) (hB : Below w.heap.size w wr) (hO : OwnM wr w.heap.size (.slice (some ⟨g, 0, none⟩) row.length c) row) (hrow : row = (R.drop k).flatten ++ [(h, q)])
    (hp : l'.Perm row) (hs : ∀ i j, i < j → j < l'.length → ¬ cfM (mAt l' j) (mAt l' i) < 0) (hM : Mr w4 g l') (hg4 : wr.grownBy w4 (some g)) :
    ∃ v5 w5, (Builtin.append_ #[25, 25] 25 #[.slice p k k, .slice (some ⟨w4.heap.size, 0, none⟩) 1 1]).run Try.prog (w4.alloc (.cells #[.slice (some ⟨g, 0, none⟩) row.length c] 48)) = .ok v5 w5 ∧ Boxed w5 b 27 (.slice p R.length cap) ∧
      w.grownBy (w5.setCell ⟨b, 0, none⟩ v5) (some b) ∧ Sc N X (w5.setCell ⟨b, 0, none⟩ v5) b (D ++ [(h, q)]) ∧ ∃ G C, v5 = .slice (some ⟨G, 0, none⟩) (k + 1) C := by
  obtain ⟨-, hgc, hbg, hgs, -, -⟩ := own_mr hO
  have hB4 : Below w.heap.size w w4 := hB.grown hg4 hB.size (fun j e => by cases e; exact hbg)
  obtain ⟨wa, hwa⟩ : ∃ wa, w4.alloc (.cells #[.slice (some ⟨g, 0, none⟩) row.length c] 48) = wa := ⟨_, rfl⟩
  have hBa : Below w.heap.size w wa := by rw [← hwa]; exact hB4.alloc hB4.size _
  have hB4a : Below w4.heap.size w4 wa := by rw [← hwa]; exact (Below.refl _ w4).alloc (Nat.le_refl _) _
  have hca : wa.cell? ⟨w4.heap.size, 0, none⟩ = some (.slice (some ⟨g, 0, none⟩) row.length c) := by
    rw [← hwa]
    unfold World.cell?
    rw [World.alloc_heap_new]
    rfl
  rw [hwa]
  clear hwa
  have hRl : R.length ≤ 50 := by have := flat_ge R hrd.ne; have := hrd.flen; omega
  obtain ⟨i0, hi, hz0, hz1, hz2⟩ := info_parts Try.info48
  have hrwa : RwsN N X wa p R := hrw.kept (row := none) ⟨hBa.os, hBa.tape, hBa.output, hBa.size, fun k hk _ => hBa.block k hk⟩ (fun k e => by cases e)
  -- the slices of the rows that are kept
  have holds : ∃ olds : List Value, olds.length = k ∧ (Builtin.firstCells i0.size k (.slice p k k)).run Try.prog wa.drew = .ok olds.toArray wa.drew ∧
      ∀ i, i < k → ∃ gi ci, olds[i]? = some (.slice (some ⟨gi, 0, none⟩) (rAt R i).length ci) ∧ (rAt R i).length ≤ ci ∧ (N ≤ gi ∧ ¬ X gi) ∧ Mr wa gi (rAt R i) := by
    rcases hrwa with e | ⟨gg, rfl, hgN, hg⟩
    · subst e
      obtain rfl : k = 0 := by simpa using hk
      refine ⟨[], rfl, ?_, fun i hi => by omega⟩
      cases p with
      | none => exact run_firstCells_none wa.drew _ 0 0 0
      | some a => exact run_firstCells_some wa.drew _ 0 a 0 0 [] (by simp) (fun j u hu => by simp at hu)
    · refine ⟨(List.range k).map fun i => (wa.cell? ⟨gg, i, none⟩).getD undef, by simp, ?_, fun i hi => ?_⟩
      · refine run_firstCells_some wa.drew _ k ⟨gg, 0, none⟩ k k _ (by rw [hz1]; simp) (fun j u hu => ?_)
        have hj : j < k := by have := (List.getElem?_eq_some_iff.1 hu).1; simpa using this
        obtain ⟨gi, ci, h1, -⟩ := hg j (by omega)
        rw [List.getElem?_map, List.getElem?_range hj] at hu
        simp [h1] at hu
        subst hu
        rw [add_plain, Nat.zero_add]
        simpa using h1
      · obtain ⟨gi, ci, h1, h2, h3, h4⟩ := hg i (by omega)
        refine ⟨gi, ci, ?_, h2, h3, h4⟩
        rw [List.getElem?_map, List.getElem?_range hi]
        simp [h1]
  obtain ⟨olds, hol, hrun, hold⟩ := holds
  have SRC := Src.ofSlice wa (P := Try.prog) (size := i0.size) Try.underlying25 ⟨w4.heap.size, 0, none⟩ 1 1 [.slice (some ⟨g, 0, none⟩) row.length c] (by rw [hz1]; rfl) (fun j u hu => by
    cases j with
    | zero => simp at hu; subst hu; rw [add_plain]; exact hca
    | succ j => simp at hu) (fun u hu => by simp at hu; subst hu; rfl)
  have hnc : Builtin.nextslicecap (k + 1) k * i0.bytes ≤ 281474976710656 := by
    have := nextslicecap_le (need := k + 1) (old := k) (by omega)
    rw [hz2]
    omega
  have RUN := run_append_grow_src wa 25 25 25 48 i0 _ Try.underlying25 hi hz0 p k k olds hrun _ 1 _ SRC (by omega) (by omega) hnc
  have hge := grownCap_ge wa (k + 1) k 48
  generalize grownCap wa (k + 1) k 48 = C at RUN hge
  obtain ⟨ob, hob⟩ : ∃ ob, Obj.cells ((olds ++ [Value.slice (some ⟨g, 0, none⟩) row.length c]).toArray ++ Builtin.zeroCells (Value.slice none 0 0).cells (C - (k + 1))) 48 = ob := ⟨_, rfl⟩
  rw [hob] at RUN
  have hB5a : Below wa.heap.size wa (wa.drew.alloc ob) := ((Below.refl _ wa).drew).alloc (by simp) _
  have hB5 : Below w.heap.size w (wa.drew.alloc ob) := hBa.trans (hB5a.mono hBa.size)
  have hnew : (wa.drew.alloc ob).heap[wa.heap.size]? = some ob := World.alloc_heap_new wa.drew ob
  generalize wa.drew.alloc ob = w5 at RUN hB5a hB5 hnew
  have hbw : b < w.heap.size := Nat.lt_of_lt_of_le hbN hNw
  have hbx5 := boxed_below hbox hB5
  refine ⟨_, w5, RUN, hbx5, set_grown hB5 hbw, ⟨hbN, ?_, R.take k ++ [l'], some ⟨wa.heap.size, 0, none⟩, C, ?_, ?_, ?_, rd_more hrd hD ho hrow hp hs⟩, _, _, rfl⟩
  · have := hB5.size
    simp [World.setCell]
    omega
  · have e : (R.take k ++ [l']).length = k + 1 := by rw [List.length_append, List.length_take, Nat.min_eq_left hk]; rfl
    rw [e]
    exact hbx5.set _
  · have e : (R.take k ++ [l']).length = k + 1 := by rw [List.length_append, List.length_take, Nat.min_eq_left hk]; rfl
    rw [e]
    exact hge
  · have hga : wa.grownBy (w5.setCell ⟨b, 0, none⟩ (.slice (some ⟨wa.heap.size, 0, none⟩) (k + 1) C)) (some b) := set_grown hB5a (Nat.lt_of_lt_of_le hbw hBa.size)
    have hsa := hBa.size
    refine .inr ⟨wa.heap.size, rfl, ⟨by omega, fun h => by have := hX _ h; omega⟩, fun i hi => ?_⟩
    have hcell : ∀ i v, (olds ++ [Value.slice (some ⟨g, 0, none⟩) row.length c])[i]? = some v → (w5.setCell ⟨b, 0, none⟩ (.slice (some ⟨wa.heap.size, 0, none⟩) (k + 1) C)).cell? ⟨wa.heap.size, i, none⟩ = some v := by
      intro i v hv
      have e1 : (w5.setCell ⟨b, 0, none⟩ (.slice (some ⟨wa.heap.size, 0, none⟩) (k + 1) C)).heap[wa.heap.size]? = w5.heap[wa.heap.size]? := Deep.blk_setCell_other _ _ _ _ (by dsimp only; omega)
      rw [World.cell?_of_block e1]
      unfold World.cell?
      rw [hnew, ← hob]
      have hlt := (List.getElem?_eq_some_iff.1 hv).1
      dsimp only
      have e2 : ((olds ++ [Value.slice (some ⟨g, 0, none⟩) row.length c]).toArray ++ Builtin.zeroCells (Value.slice none 0 0).cells (C - (k + 1)))[i]? = some v := by
        rw [Array.getElem?_append_left (by simpa using hlt), List.getElem?_toArray]
        exact hv
      simpa using e2
    rw [List.length_append, List.length_take, Nat.min_eq_left hk] at hi
    by_cases hik : i < k
    · obtain ⟨gi, ci, h1, h2, h3, h4⟩ := hold i hik
      rw [rAt_take l' hik hk]
      exact ⟨gi, ci, hcell i _ (by rw [List.getElem?_append_left (by omega)]; exact h1), h2, h3, h4.kept hga (fun e => by cases e; omega)⟩
    · obtain rfl : i = k := by simp at hi; omega
      rw [rAt_last l' hk]
      refine ⟨g, c, ?_, by rw [hp.length_eq]; exact hgc, ⟨by omega, fun h => by have := hX _ h; omega⟩, (hM.on hB4a).kept hga (fun e => by cases e; omega)⟩
      rw [hp.length_eq]
      exact hcell i _ (by rw [List.getElem?_append_right (by omega), hol]; simp)
end Go.Proofs.Ytmeojnpehmhmoaa
set_option linter.all false
set_option maxRecDepth 100000
namespace Go.Proofs.Ytmeojnpehmhmoaa
open Go.RowKit

set_option maxHeartbeats 800000 in
theorem Set_no (N b : Nat) (X : Nat → Prop) (D : List Mn) (h q x : ByteArray) (w : World) (hS : Sc N X w b D) (ho : look D h = some x) :
    Calls Try.prog 6 #[.pointer (some ⟨b, 0, none⟩), .string h, .string q] w fun e w' => e = .returned (.bool false) ∧ Below w.heap.size w w' := by
  have TD := hS.told h
  rw [ho] at TD
  simp only [optV, Option.getD, Option.isSome] at TD
  go_enter Try.func6, Try.ntmps6
  go_wp2_with (first | (go_at_call 14; refine TD.mono ?_; rintro e w1 ⟨rfl, hB⟩))
  go_ret
  exact ⟨rfl, hB⟩
theorem slice3 (p : Option Addr) (len cap s : Nat) (hs : s ≤ cap) (w2 : World) :
    (Instr.slice 25 (.slice p len cap) none (some (.int .i64 s)) (some (.int .i64 s))).run Try.prog w2 = .ok (.slice p s s) w2 := by
  have h0 : (s : Int) ≤ cap := by omega
  have u := Try.underlying25
  have z := Try.sizeOf48
  cases p with
  | none => simp [go_sem, h0]
  | some a =>
    obtain ⟨b, o, sp⟩ := a
    by_cases hc : s = 0
    · subst hc
      simp [go_sem]
    · cases sp <;> simp [go_sem, h0, hc, Addr.add]
theorem drop_flat {R : List (List Mn)} {k : Nat} (h : k < R.length) : (R.drop k).flatten = rAt R k ++ (R.drop (k + 1)).flatten := by
  rw [List.drop_eq_getElem_cons h, List.flatten_cons, rAt_get h]
theorem own_one (w : World) (h q : ByteArray) (base : Nat) (hb : base ≤ w.heap.size) : OwnM (w.alloc (.cells #[.string h, .string q] 47)) base (.slice (some ⟨w.heap.size, 0, none⟩) 1 1) [(h, q)] :=
  ⟨rfl, .inr ⟨w.heap.size, 1, _, rfl, hb, World.alloc_heap_new w _, by simp, by unfold maxLen; simp, rfl, rfl⟩⟩
theorem two_cells (W : World) (x y : Value) : (W.alloc (.cells #[x, y] 48)).cell? ⟨W.heap.size, 0, none⟩ = some x ∧ (W.alloc (.cells #[x, y] 48)).cell? ⟨W.heap.size, 1, none⟩ = some y := by
  constructor
  · unfold World.cell?
    rw [World.alloc_heap_new]
    rfl
  · unfold World.cell?
    rw [World.alloc_heap_new]
    rfl
set_option maxHeartbeats 1600000 in
theorem Set_yes (N b : Nat) (X : Nat → Prop) (D : List Mn) (h q : ByteArray) (w : World) (hX : ∀ k, X k → k < w.heap.size) (hS : Sc N X w b D) (hD : D.length ≤ 49) (ho : look D h = none) :
    Calls Try.prog 6 #[.pointer (some ⟨b, 0, none⟩), .string h, .string q] w fun e w' => e = .returned (.bool true) ∧ w.grownBy w' (some b) ∧ Sc N X w' b (D ++ [(h, q)]) := by
  have TD := hS.told h
  rw [ho] at TD
  simp only [optV, Option.getD, Option.isSome] at TD
  obtain ⟨hbN, hNw, R, p, cap, hbox, hcap, hrw, hrd⟩ := hS
  have hRl : R.length ≤ 50 := by have := flat_ge R hrd.ne; have := hrd.flen; omega
  have hc0 := hbox.cell
  have hbl := World.block_lt_of_cell? w _ hc0
  dsimp only at hbl
  go_enter Try.func6, Try.ntmps6
  go_wp2_with (first | (go_at_call 14; refine TD.mono ?_; rintro e w1 ⟨rfl, hB1⟩; have hc1 := (hB1.cell (p := ⟨b, 0, none⟩) hbl).trans hc0; have hc2 := ((hB1.alloc hB1.size (.cells #[.string h, .string q] 47)).cell (p := ⟨b, 0, none⟩) hbl).trans hc0))
  have hO0 := own_one w1 h q w.heap.size hB1.size
  have hB0 := hB1.alloc hB1.size (.cells #[.string h, .string q] 47)
  generalize w1.alloc (.cells #[.string h, .string q] 47) = w2 at hc2 hO0 hB0 ⊢
  have e1 : ([(h, q)] : List Mn).length = 1 := rfl
  go_loopw [9, 10] (fun rv rk wr => ∃ (k g c : Nat) (row : List Mn), k ≤ R.length ∧ rk = .int .i64 k ∧ rv = .slice (some ⟨g, 0, none⟩) row.length c ∧ OwnM wr w.heap.size (.slice (some ⟨g, 0, none⟩) row.length c) row ∧ Hid (row = (R.drop k).flatten ++ [(h, q)]) ∧ Below w.heap.size w wr) (fun _ rk _ => (RowKit.intOf rk).toNat)
  case atStart => exact ⟨R.length, w1.heap.size, 1, [(h, q)], Nat.le_refl _, rfl, rfl, hO0, by show _ = _; rw [List.drop_length]; rfl, hB0⟩
  case round =>
    clear hO0 hB0 hc2 TD hc1 hB1
    obtain ⟨k, g, c, row, hk, rfl, rfl, hO, hrow, hB⟩ := hrel
    have hb := (hB.cell (p := ⟨b, 0, none⟩) hbl).trans hc0
    have hrw2 := hrw.kept (row := none) ⟨hB.os, hB.tape, hB.output, hB.size, fun k hk _ => hB.block k hk⟩ (fun k e => by cases e)
    obtain ⟨-, hgc, hbg, hgs, hMg, hfg⟩ := own_mr hO
    have hrl : row.length ≤ 100 := by
      rw [hrow.out, List.length_append]
      have e2 : R.flatten.length = (R.take k).flatten.length + (R.drop k).flatten.length := by rw [← List.length_append, ← List.flatten_append, List.take_append_drop]
      have e3 : ([(h, q)] : List Mn).length = 1 := rfl
      have := hrd.flen
      omega
    by_cases hk0 : 0 < k
    · obtain ⟨k', rfl⟩ : ∃ k', k = k' + 1 := ⟨k - 1, by omega⟩
      rcases hrw2 with e | ⟨gg, rfl, hgN, hg⟩
      · subst e; simp at hk
      obtain ⟨gi, ci, a1, a2, a3, a4⟩ := hg k' (by omega)
      have hkm : (k' : Int) < R.length := by omega
      have hk1 : (0 : Int) < (k' + 1 : Nat) := by omega
      have hk2 : ((k' + 1 : Nat) : Int) - 1 = k' := by omega
      by_cases hle : (rAt R k').length ≤ row.length
      · have hle' : ((rAt R k').length : Int) ≤ row.length := by omega
        have hrm := rAt_mem (R := R) (i := k') (by omega)
        obtain ⟨a1', a2'⟩ := two_cells wr (.slice (some ⟨gi, 0, none⟩) (rAt R k').length ci) (.slice (some ⟨g, 0, none⟩) row.length c)
        have hBa := (Below.refl wr.heap.size wr).alloc (Nat.le_refl _) (.cells #[.slice (some ⟨gi, 0, none⟩) (rAt R k').length ci, .slice (some ⟨g, 0, none⟩) row.length c] 48)
        have CC := concat_any wr.heap.size gi ci g c (rAt R k') row _ a1' a2' (a4.on hBa) (hMg.on hBa) (hrd.ne _ hrm) (by rw [hrow.out]; simp) (by have := mem_flat_le hrm; have := hrd.flen; omega) (by omega)
        have HR : Hid (rAt R k' ++ row = (R.drop k').flatten ++ [(h, q)]) := by
          show _ = _
          rw [hrow.out, drop_flat (R := R) (k := k') (by omega), List.append_assoc]
        have hszr := hB.size
        clear hg a1' a2' a4 hMg hfg hO hrow
        go_wp2_with (first | (go_at_call 15; refine CC.mono ?_; rintro e w3 ⟨g3, c3, rfl, hO3, hB3⟩))
        go_roundw
        case rel =>
          rw [← List.length_append] at *
          refine ⟨k', g3, c3, rAt R k' ++ row, by omega, rfl, rfl, ownsRow_mono hO3 (by simp; omega), HR.out, ?_⟩
          exact hB.trans ((hBa.trans (hB3.mono (by simp))).mono hB.size)
        case measure => simp [RowKit.intOf]
      · have hle' : ¬ ((rAt R k').length : Int) ≤ row.length := by omega
        have hg2 : Hid (∀ i, i < R.length → True) := fun _ _ => trivial
        clear hg
        have S3 := slice3 (some ⟨gg, 0, none⟩) R.length cap (k' + 1) (by omega)
        have SO := sort_any g c row wr hMg hfg hgs (by omega)
        have HE : Hid (∀ (w4 : World) (l' : List Mn), l'.Perm row → (∀ i j, i < j → j < l'.length → ¬ cfM (mAt l' j) (mAt l' i) < 0) → Mr w4 g l' → wr.grownBy w4 (some g) → _) := fun w4 l' hp hs hM hg4 => And.intro (hg4.block b (Nat.lt_of_lt_of_le hbl hB.size) (fun e => by cases e; omega)) (set_end N b cap (k' + 1) g c X (some ⟨gg, 0, none⟩) R D h q w wr w4 row l' hbN hNw hbox hcap hX hrw hrd hD ho hk hB hO hrow.out hp hs hM hg4)
        have hb2 := hb
        clear hrow hO hMg hfg
        go_wp2_with (first | (go_at_call 16; refine SO.mono ?_; rintro e w4 ⟨rfl, l', hp, hs, hM, hg4⟩; obtain ⟨eb, v5, w5, hrun, hbx5, hgr, hSc, G, C, rfl⟩ := HE.out w4 l' hp hs hM hg4; have c4 := (World.cell?_of_block (a := ⟨b, 0, none⟩) eb).trans hb2; have c5 := hbx5.cell; have f5 := hbx5.frozen) | (at_builtin; refine wpList_append_run rfl _ _ 25 rfl rfl rfl hrun ?_))
        go_ret
        exact ⟨rfl, hgr, hSc⟩
    · obtain rfl : k = 0 := by omega
      have S3 := slice3 p R.length cap 0 (by omega)
      have SO := sort_any g c row wr hMg hfg hgs (by omega)
      have HE : Hid (∀ (w4 : World) (l' : List Mn), l'.Perm row → (∀ i j, i < j → j < l'.length → ¬ cfM (mAt l' j) (mAt l' i) < 0) → Mr w4 g l' → wr.grownBy w4 (some g) → _) := fun w4 l' hp hs hM hg4 => And.intro (hg4.block b (Nat.lt_of_lt_of_le hbl hB.size) (fun e => by cases e; omega)) (set_end N b cap 0 g c X p R D h q w wr w4 row l' hbN hNw hbox hcap hX hrw hrd hD ho hk hB hO hrow.out hp hs hM hg4)
      have hb2 := hb
      clear hrw2 hrow hO hMg hfg
      go_wp2_with (first | (go_at_call 16; refine SO.mono ?_; rintro e w4 ⟨rfl, l', hp, hs, hM, hg4⟩; obtain ⟨eb, v5, w5, hrun, hbx5, hgr, hSc, G, C, rfl⟩ := HE.out w4 l' hp hs hM hg4; have c4 := (World.cell?_of_block (a := ⟨b, 0, none⟩) eb).trans hb2; have c5 := hbx5.cell; have f5 := hbx5.frozen) | (at_builtin; refine wpList_append_run rfl _ _ 25 rfl rfl rfl hrun ?_))
      go_ret
      exact ⟨rfl, hgr, hSc⟩
end Go.Proofs.Ytmeojnpehmhmoaa
