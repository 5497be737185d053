/- The walk: item. -/
import Derived.Test.YtipbhdhiklmieaaGreatDoorZAO
import Derived.Deep.MidRow
set_option linter.all false
set_option maxRecDepth 100000
set_option maxHeartbeats 8000000
namespace Go.Proofs.YtipbhdhiklmieaaGreatDoor
open Go.RowKit Go.Shelf
attribute [local go_sem] Oper.semAt_some
section
variable {w : World} {wb : Nat} {E : Env} {s : St} {ov tv : Value} {O : Orc} {Tb : World -> Prop} {l : Lv} {r : List Lv}
theorem item_any (LW : Low O Tb) (h : Wk w wb E s ov tv) (hs : Smx s) (hf : Fine E) (hp : Okp E s.p) (hop : s.op = l :: r) (hho : l.ho < s.to.length) (hbk : l.bk <= 1048576) :
  Calls Tryz.prog 75 #[(.pointer (some ⟨wb, 0, none⟩))] w fun en w' => Post wb E w (iteW O E.L E.n E.d s l) en w' := by
 obtain ⟨g, cap, rfl, -⟩ := h.top hop
 refine (callsIn_wide (n := 9)).1 ?_
 have hrl := hs.sml.rl hop
 have TP := fun m => (callsIn_wide (n := m)).2 (top_any (l := l) h hrl)
 have HQ0 : Hid (Kw w w wb E s (.slice (some ⟨g, 0, none⟩) (r.length + 1) cap) tv) := ⟨Kee.refl _ _, h⟩
 have hS : (topS s fun l => { l with nx := 4 }) = { s with op := { l with nx := 4 } :: r } := by unfold topS; simp only [hop]
 refine callsIn_of_wp Tryz.func75 rfl trivial ?_ rfl
 simp only [Tryz.ntmps75, frm, Nat.reduceAdd, Nat.reduceSub]
 unfold iteW
 simp only [hS]
 clear hS
 cases hr : nexW O E.L E.n s.p with
 | error c =>
  have h0 : c ≠ 0 := nexF_ne _ _ _ _ hr
  have e1 : (c == 0) = false := by rw [beq_eq_false_iff_ne]; exact h0
  have e2 : (c != 0) = true := by simp [h0]
  dsimp only
  gi_wp2
  first | refine tr2 ?_ | refine tr1 ?_
  gi_at_call 73
  refine (TP _).mono ?_
  clear TP
  rintro en V1 ⟨rfl, hB1⟩
  have kw1 := HQ0.out.on hB1
  obtain ⟨t0, t1, t2, t3, t4, t5, t6⟩ := Wk.tops (l := l) (r := r) kw1.w hop
  have f2 := t6 (r.length * 7 + 2)
  have kw2 := Kw.setL (l := l) (l' := { l with nx := 4 }) (r := r) (j := 2) (x := .int .u8 4) kw1 hop (by decide) rfl
  obtain ⟨c4, c5, c7, c8, c9⟩ := kw2.cells
  have NX := fun m => (callsIn_wide (n := m)).2 (next_any LW.c LW.l kw2.w hf hp)
  rw [hr] at NX
  simp only [nexV, Pl.v] at NX
  dsimp only at c4 c5 c8
  have HK2 : Hid _ := kw2
  clear kw1 kw2 t6 HQ0 hB1
  gi_wp2
  first | refine tr2 ?_ | refine tr1 ?_
  gi_at_call 98
  refine (NX _).mono ?_
  clear NX c4 c5 c7 c8 c9 t0 t1 t2 t3 t4 t5 f2
  rintro en V2 ⟨rfl, hB2⟩
  have kw3 := HK2.out.on hB2
  clear HK2 hB2
  have HK3 : Hid _ := kw3
  clear kw3
  gi_wp2
  go_ret
  exact ⟨HK3.out.k.trans (Kee.alloc wb V2 _), rfl⟩
 | ok o =>
  cases o with
  | none =>
   dsimp only
   gi_wp2
   first | refine tr2 ?_ | refine tr1 ?_
   gi_at_call 73
   refine (TP _).mono ?_
   clear TP
   rintro en V1 ⟨rfl, hB1⟩
   have kw1 := HQ0.out.on hB1
   obtain ⟨t0, t1, t2, t3, t4, t5, t6⟩ := Wk.tops (l := l) (r := r) kw1.w hop
   have f2 := t6 (r.length * 7 + 2)
   have kw2 := Kw.setL (l := l) (l' := { l with nx := 4 }) (r := r) (j := 2) (x := .int .u8 4) kw1 hop (by decide) rfl
   obtain ⟨c4, c5, c7, c8, c9⟩ := kw2.cells
   have NX := fun m => (callsIn_wide (n := m)).2 (next_any LW.c LW.l kw2.w hf hp)
   rw [hr] at NX
   simp only [nexV, Pl.v] at NX
   dsimp only at c4 c5 c8
   have HK2 : Hid _ := kw2
   clear kw1 kw2 t6 HQ0 hB1
   gi_wp2
   first | refine tr2 ?_ | refine tr1 ?_
   gi_at_call 98
   refine (NX _).mono ?_
   clear NX c4 c5 c7 c8 c9 t0 t1 t2 t3 t4 t5 f2
   rintro en V2 ⟨rfl, hB2⟩
   have kw3 := HK2.out.on hB2
   clear HK2 hB2
   have HK3 : Hid _ := kw3
   clear kw3
   gi_wp2
   go_ret
   exact ⟨HK3.out.k.trans (Kee.alloc wb V2 _), rfl, _, _, HK3.out.w.on (below_alloc V2 _)⟩
  | some q =>
   obtain ⟨q1, q2, q3⟩ := nexW_goes hp.okL hr
   have hqo := q1.okp
   have hqk := hqo.lek hf
   dsimp only
   cases hsg : sgnW O E.L s q with
   | false =>
    rw [if_pos (.inl rfl)]
    gi_wp2
    first | refine tr2 ?_ | refine tr1 ?_
    gi_at_call 73
    refine (TP _).mono ?_
    clear TP
    rintro en V1 ⟨rfl, hB1⟩
    have kw1 := HQ0.out.on hB1
    obtain ⟨t0, t1, t2, t3, t4, t5, t6⟩ := Wk.tops (l := l) (r := r) kw1.w hop
    have f2 := t6 (r.length * 7 + 2)
    have kw2 := Kw.setL (l := l) (l' := { l with nx := 4 }) (r := r) (j := 2) (x := .int .u8 4) kw1 hop (by decide) rfl
    obtain ⟨c4, c5, c7, c8, c9⟩ := kw2.cells
    have NX := fun m => (callsIn_wide (n := m)).2 (next_any LW.c LW.l kw2.w hf hp)
    rw [hr] at NX
    simp only [nexV, Pl.v] at NX
    dsimp only at c4 c5 c8
    have HK2 : Hid _ := kw2
    clear kw1 kw2 t6 HQ0 hB1
    gi_wp2
    first | refine tr2 ?_ | refine tr1 ?_
    gi_at_call 98
    refine (NX _).mono ?_
    clear NX c4 c5 c7 c8 c9 t0 t1 t2 t3 t4 t5 f2
    rintro en V2 ⟨rfl, hB2⟩
    have kw3 := HK2.out.on hB2
    clear HK2 hB2
    have vq3 : Vq w (V2.alloc (.cells #[.int .i64 (q.i : Nat), .int .i64 (q.k : Nat)] 60)) wb E { s with op := { l with nx := 4 } :: r } (.slice (some ⟨g, 0, none⟩) (r.length + 1) cap) tv V2.heap.size q := ⟨kw3.k.trans (Kee.alloc wb V2 _), kw3.w.on (below_alloc V2 _), by show _ = _; exact World.alloc_heap_new V2 _⟩
    clear kw3
    gi_wp2
    generalize V2.alloc (.cells #[.int .i64 (q.i : Nat), .int .i64 (q.k : Nat)] 60) = V3 at vq3 |-
    generalize V2.heap.size = B at vq3 |-
    obtain ⟨y0, y1, y2, y3, y4, y5⟩ := vq3.cells
    obtain ⟨t0, t1, t2, t3, t4, t5, t6⟩ := Wk.tops (l := { l with nx := 4 }) (r := r) vq3.w rfl
    dsimp only at t3 t4
    have VC := fun m => (callsIn_wide (n := m)).2 (valueSign_any (s := { s with op := { l with nx := 4 } :: r }) LW.c vq3.w.drew hf hqo)
    rw [show sgnW O E.L { s with op := { l with nx := 4 } :: r } q = sgnW O E.L s q from rfl, hsg] at VC
    have HV3 : Hid _ := vq3
    clear vq3 t0 t1 t2 t5 t6 y2 y3 y4 y5
    refine region_pickN (Sq V3) (by kernel_rfl) ?_
    show Any _ _ _ _ _ _ 25 _ ⟨#[_,_,_,_,_,_,_,_,_,_,_,_,_,_,_,_,_,_,_,_,_,_,_,_,_,_,_,_,_,_,_,_,_,_,_,_,_,_,_,_,_,_,_,_,_,_,_,_,_,_,_,_,_,_,_,_,_,_,_,_,_,_,_,_,_,_,_,_,_,_,_,_,_,_,_,_,_,_], []⟩ V3.drew
    refine .tp 0 (.pointer (some ⟨wb, 0, none⟩)) (Sq.drew V3) ?_
    refine .tl 1 (.agg #[.int .i64 (q.i : Nat), .int .i64 (q.k : Nat)]) rfl (fun w hw => by have a1 := hw.cell y0; have a2 := hw.cell y1; go_simp) (Sq.drew V3) ?_
    refine .on 2 rfl rfl fun K hK => ?_
    go_simp
    first | refine tr2 ?_ | refine tr1 ?_
    refine (VC _).mono ?_
    clear VC
    rintro en V4 ⟨rfl, hB4⟩
    have B4 := ((Below.refl _ V3).drew).trans (hB4.mono (Nat.le_refl _))
    refine hK _ _ (Sq.of B4) ?_
    clear hK K
    show Any _ _ _ _ _ _ 22 _ ⟨#[_,_,_,_,_,_,_,_,_,_,_,_,_,_,_,_,_,_,_,_,_,_,_,_,_,_,_,_,_,_,_,_,_,_,_,_,_,_,_,_,_,_,_,_,_,_,_,_,_,_,_,_,_,_,_,_,_,_,_,_,_,_,_,_,_,_,_,_,_,_,_,_,_,_,_,_,_,_], []⟩ V4
    refine .tp 3 (.bool true) (Sq.of B4) ?_
    refine .tp 4 (.bool true) (Sq.of B4) ?_
    refine .ts 5 (Sq.of B4) ?_
    refine .ts 6 (Sq.of B4) ?_
    refine .ts 7 (Sq.of B4) ?_
    refine .ts 8 (Sq.of B4) ?_
    show Any _ _ _ _ _ _ 16 _ ⟨#[_,_,_,_,_,_,_,_,_,_,_,_,_,_,_,_,_,_,_,_,_,_,_,_,_,_,_,_,_,_,_,_,_,_,_,_,_,_,_,_,_,_,_,_,_,_,_,_,_,_,_,_,_,_,_,_,_,_,_,_,_,_,_,_,_,_,_,_,_,_,_,_,_,_,_,_,_,_], []⟩ _
    refine .ts 9 (Sq.of B4) ?_
    refine .ts 10 (Sq.of B4) ?_
    refine .ts 11 (Sq.of B4) ?_
    refine .ts 12 (Sq.of B4) ?_
    refine .tp 13 (.bool true) (Sq.of B4) ?_
    refine .tp 14 (.bool true) (Sq.of B4) ?_
    show Any _ _ _ _ _ _ 10 _ ⟨#[_,_,_,_,_,_,_,_,_,_,_,_,_,_,_,_,_,_,_,_,_,_,_,_,_,_,_,_,_,_,_,_,_,_,_,_,_,_,_,_,_,_,_,_,_,_,_,_,_,_,_,_,_,_,_,_,_,_,_,_,_,_,_,_,_,_,_,_,_,_,_,_,_,_,_,_,_,_], []⟩ _
    refine .ts 15 (Sq.of B4) ?_
    refine .ts 16 (Sq.of B4) ?_
    refine .ts 17 (Sq.of B4) ?_
    refine .ts 18 (Sq.of B4) ?_
    refine .ts 19 (Sq.of B4) ?_
    refine .ts 20 (Sq.of B4) ?_
    show Any _ _ _ _ _ _ 4 _ ⟨#[_,_,_,_,_,_,_,_,_,_,_,_,_,_,_,_,_,_,_,_,_,_,_,_,_,_,_,_,_,_,_,_,_,_,_,_,_,_,_,_,_,_,_,_,_,_,_,_,_,_,_,_,_,_,_,_,_,_,_,_,_,_,_,_,_,_,_,_,_,_,_,_,_,_,_,_,_,_], []⟩ _
    refine .ts 21 (Sq.of B4) ?_
    refine .ts 22 (Sq.of B4) ?_
    refine .ts 23 (Sq.of B4) ?_
    refine .tp 24 (.bool true) (Sq.of B4) ?_
    refine Any.done (by kernel_rfl) ?_
    rename_i Kb hKb
    refine hKb _ _ ?_
    clear hKb
    have vq4 := HV3.out.on B4
    clear HV3 y0 y1 t3 t4 B4 hB4
    have HV4 : Hid _ := vq4
    clear vq4
    gi_wp2
    go_ret
    exact ⟨HV4.out.k, rfl, _, _, HV4.out.w⟩
   | true =>
    by_cases hi : q.i = l.bi
    ·have HIC : Hid ((q.i : Int) = (l.bi : Int)) := by show (q.i : Int) = (l.bi : Int); omega
     by_cases hk : (q.k : Int) - l.bk > 1024
     ·rw [if_pos (.inr (.inr hk))]
      have hk' : (1024 : Int) < (q.k : Int) - (l.bk : Int) := hk
      have HWR : Hid (IntKind.i64.wrap ((q.k : Int) - (l.bk : Int)) = (q.k : Int) - (l.bk : Int)) := wrapS (by omega) (by omega)
      clear hk hi
      gi_wp2
      first | refine tr2 ?_ | refine tr1 ?_
      gi_at_call 73
      refine (TP _).mono ?_
      clear TP
      rintro en V1 ⟨rfl, hB1⟩
      have kw1 := HQ0.out.on hB1
      obtain ⟨t0, t1, t2, t3, t4, t5, t6⟩ := Wk.tops (l := l) (r := r) kw1.w hop
      have f2 := t6 (r.length * 7 + 2)
      have kw2 := Kw.setL (l := l) (l' := { l with nx := 4 }) (r := r) (j := 2) (x := .int .u8 4) kw1 hop (by decide) rfl
      obtain ⟨c4, c5, c7, c8, c9⟩ := kw2.cells
      have NX := fun m => (callsIn_wide (n := m)).2 (next_any LW.c LW.l kw2.w hf hp)
      rw [hr] at NX
      simp only [nexV, Pl.v] at NX
      dsimp only at c4 c5 c8
      have HK2 : Hid _ := kw2
      clear kw1 kw2 t6 HQ0 hB1
      gi_wp2
      first | refine tr2 ?_ | refine tr1 ?_
      gi_at_call 98
      refine (NX _).mono ?_
      clear NX c4 c5 c7 c8 c9 t0 t1 t2 t3 t4 t5 f2
      rintro en V2 ⟨rfl, hB2⟩
      have kw3 := HK2.out.on hB2
      clear HK2 hB2
      have vq3 : Vq w (V2.alloc (.cells #[.int .i64 (q.i : Nat), .int .i64 (q.k : Nat)] 60)) wb E { s with op := { l with nx := 4 } :: r } (.slice (some ⟨g, 0, none⟩) (r.length + 1) cap) tv V2.heap.size q := ⟨kw3.k.trans (Kee.alloc wb V2 _), kw3.w.on (below_alloc V2 _), by show _ = _; exact World.alloc_heap_new V2 _⟩
      clear kw3
      gi_wp2
      generalize V2.alloc (.cells #[.int .i64 (q.i : Nat), .int .i64 (q.k : Nat)] 60) = V3 at vq3 |-
      generalize V2.heap.size = B at vq3 |-
      obtain ⟨y0, y1, y2, y3, y4, y5⟩ := vq3.cells
      obtain ⟨t0, t1, t2, t3, t4, t5, t6⟩ := Wk.tops (l := { l with nx := 4 }) (r := r) vq3.w rfl
      dsimp only at t3 t4
      have VC := fun m => (callsIn_wide (n := m)).2 (valueSign_any (s := { s with op := { l with nx := 4 } :: r }) LW.c vq3.w.drew hf hqo)
      rw [show sgnW O E.L { s with op := { l with nx := 4 } :: r } q = sgnW O E.L s q from rfl, hsg] at VC
      have HV3 : Hid _ := vq3
      clear vq3 t0 t1 t2 t5 t6 y2 y3 y4 y5
      refine region_pickN (Sq V3) (by kernel_rfl) ?_
      show Any _ _ _ _ _ _ 25 _ ⟨#[_,_,_,_,_,_,_,_,_,_,_,_,_,_,_,_,_,_,_,_,_,_,_,_,_,_,_,_,_,_,_,_,_,_,_,_,_,_,_,_,_,_,_,_,_,_,_,_,_,_,_,_,_,_,_,_,_,_,_,_,_,_,_,_,_,_,_,_,_,_,_,_,_,_,_,_,_,_], []⟩ V3.drew
      refine .tp 0 (.pointer (some ⟨wb, 0, none⟩)) (Sq.drew V3) ?_
      refine .tl 1 (.agg #[.int .i64 (q.i : Nat), .int .i64 (q.k : Nat)]) rfl (fun w hw => by have a1 := hw.cell y0; have a2 := hw.cell y1; go_simp) (Sq.drew V3) ?_
      refine .on 2 rfl rfl fun K hK => ?_
      go_simp
      first | refine tr2 ?_ | refine tr1 ?_
      refine (VC _).mono ?_
      clear VC
      rintro en V4 ⟨rfl, hB4⟩
      have B4 := ((Below.refl _ V3).drew).trans (hB4.mono (Nat.le_refl _))
      refine hK _ _ (Sq.of B4) ?_
      clear hK K
      show Any _ _ _ _ _ _ 22 _ ⟨#[_,_,_,_,_,_,_,_,_,_,_,_,_,_,_,_,_,_,_,_,_,_,_,_,_,_,_,_,_,_,_,_,_,_,_,_,_,_,_,_,_,_,_,_,_,_,_,_,_,_,_,_,_,_,_,_,_,_,_,_,_,_,_,_,_,_,_,_,_,_,_,_,_,_,_,_,_,_], []⟩ V4
      refine .tp 3 (.bool false) (Sq.of B4) ?_
      refine .tp 4 (.bool false) (Sq.of B4) ?_
      refine .tp 5 (.pointer (some ⟨B, 0, none⟩)) (Sq.of B4) ?_
      refine .tl 6 (.int .i64 (q.i : Nat)) rfl (fun w hw => by have a1 := hw.cell y0; go_simp) (Sq.of B4) ?_
      refine .tp 7 (.pointer (some ⟨g, r.length * 7, none⟩)) (Sq.of B4) ?_
      refine .tp 8 (.pointer (some ⟨g, r.length * 7, none⟩)) (Sq.of B4) ?_
      show Any _ _ _ _ _ _ 16 _ ⟨#[_,_,_,_,_,_,_,_,_,_,_,_,_,_,_,_,_,_,_,_,_,_,_,_,_,_,_,_,_,_,_,_,_,_,_,_,_,_,_,_,_,_,_,_,_,_,_,_,_,_,_,_,_,_,_,_,_,_,_,_,_,_,_,_,_,_,_,_,_,_,_,_,_,_,_,_,_,_], []⟩ _
      refine .tp 9 (.pointer (some ⟨g, r.length * 7 + 3, none⟩)) (Sq.of B4) ?_
      refine .tp 10 (.pointer (some ⟨g, r.length * 7 + 3, none⟩)) (Sq.of B4) ?_
      refine .tl 11 (.int .i64 (l.bi : Nat)) rfl (fun w hw => by have a1 := hw.cell t3; go_simp) (Sq.of B4) ?_
      refine .tl 12 (.bool false) rfl (fun w _ => by have hic := HIC.out; go_simp) (Sq.of B4) ?_
      refine .tp 13 (.bool false) (Sq.of B4) ?_
      refine .tp 14 (.bool false) (Sq.of B4) ?_
      show Any _ _ _ _ _ _ 10 _ ⟨#[_,_,_,_,_,_,_,_,_,_,_,_,_,_,_,_,_,_,_,_,_,_,_,_,_,_,_,_,_,_,_,_,_,_,_,_,_,_,_,_,_,_,_,_,_,_,_,_,_,_,_,_,_,_,_,_,_,_,_,_,_,_,_,_,_,_,_,_,_,_,_,_,_,_,_,_,_,_], []⟩ _
      refine .tp 15 (.pointer (some ⟨B, 1, none⟩)) (Sq.of B4) ?_
      refine .tl 16 (.int .i64 (q.k : Nat)) rfl (fun w hw => by have a1 := hw.cell y1; go_simp) (Sq.of B4) ?_
      refine .tp 17 (.pointer (some ⟨g, r.length * 7, none⟩)) (Sq.of B4) ?_
      refine .tp 18 (.pointer (some ⟨g, r.length * 7, none⟩)) (Sq.of B4) ?_
      refine .tp 19 (.pointer (some ⟨g, r.length * 7 + 3, none⟩)) (Sq.of B4) ?_
      refine .tp 20 (.pointer (some ⟨g, r.length * 7 + 3 + 1, none⟩)) (Sq.of B4) ?_
      show Any _ _ _ _ _ _ 4 _ ⟨#[_,_,_,_,_,_,_,_,_,_,_,_,_,_,_,_,_,_,_,_,_,_,_,_,_,_,_,_,_,_,_,_,_,_,_,_,_,_,_,_,_,_,_,_,_,_,_,_,_,_,_,_,_,_,_,_,_,_,_,_,_,_,_,_,_,_,_,_,_,_,_,_,_,_,_,_,_,_], []⟩ _
      refine .tl 21 (.int .i64 (l.bk : Nat)) rfl (fun w hw => by have a1 := hw.cell t4; go_simp) (Sq.of B4) ?_
      refine .tl 22 (.int .i64 ((q.k : Int) - (l.bk : Int))) rfl (fun w _ => by have hwr := HWR.out; go_simp) (Sq.of B4) ?_
      refine .tp 23 (.bool true) (Sq.of B4) ?_
      refine .tp 24 (.bool true) (Sq.of B4) ?_
      refine Any.done (by kernel_rfl) ?_
      rename_i Kb hKb
      refine hKb _ _ ?_
      clear hKb
      have vq4 := HV3.out.on B4
      clear HV3 y0 y1 t3 t4 B4 hB4
      have HV4 : Hid _ := vq4
      clear vq4
      gi_wp2
      go_ret
      exact ⟨HV4.out.k, rfl, _, _, HV4.out.w⟩
     ·rw [if_neg (by rintro (e | e | e); cases e; exact e hi; exact hk e)]
      have hk' : ¬ (1024 : Int) < (q.k : Int) - (l.bk : Int) := hk
      have HWR : Hid (IntKind.i64.wrap ((q.k : Int) - (l.bk : Int)) = (q.k : Int) - (l.bk : Int)) := wrapS (by omega) (by omega)
      clear hk hi
      cases hd : deeW E.d s s.ta with
      | true =>
       rw [if_pos rfl]
       gi_wp2
       first | refine tr2 ?_ | refine tr1 ?_
       gi_at_call 73
       refine (TP _).mono ?_
       clear TP
       rintro en V1 ⟨rfl, hB1⟩
       have kw1 := HQ0.out.on hB1
       obtain ⟨t0, t1, t2, t3, t4, t5, t6⟩ := Wk.tops (l := l) (r := r) kw1.w hop
       have f2 := t6 (r.length * 7 + 2)
       have kw2 := Kw.setL (l := l) (l' := { l with nx := 4 }) (r := r) (j := 2) (x := .int .u8 4) kw1 hop (by decide) rfl
       obtain ⟨c4, c5, c7, c8, c9⟩ := kw2.cells
       have NX := fun m => (callsIn_wide (n := m)).2 (next_any LW.c LW.l kw2.w hf hp)
       rw [hr] at NX
       simp only [nexV, Pl.v] at NX
       dsimp only at c4 c5 c8
       have HK2 : Hid _ := kw2
       clear kw1 kw2 t6 HQ0 hB1
       gi_wp2
       first | refine tr2 ?_ | refine tr1 ?_
       gi_at_call 98
       refine (NX _).mono ?_
       clear NX c4 c5 c7 c8 c9 t0 t1 t2 t3 t4 t5 f2
       rintro en V2 ⟨rfl, hB2⟩
       have kw3 := HK2.out.on hB2
       clear HK2 hB2
       have vq3 : Vq w (V2.alloc (.cells #[.int .i64 (q.i : Nat), .int .i64 (q.k : Nat)] 60)) wb E { s with op := { l with nx := 4 } :: r } (.slice (some ⟨g, 0, none⟩) (r.length + 1) cap) tv V2.heap.size q := ⟨kw3.k.trans (Kee.alloc wb V2 _), kw3.w.on (below_alloc V2 _), by show _ = _; exact World.alloc_heap_new V2 _⟩
       clear kw3
       gi_wp2
       generalize V2.alloc (.cells #[.int .i64 (q.i : Nat), .int .i64 (q.k : Nat)] 60) = V3 at vq3 |-
       generalize V2.heap.size = B at vq3 |-
       obtain ⟨y0, y1, y2, y3, y4, y5⟩ := vq3.cells
       obtain ⟨t0, t1, t2, t3, t4, t5, t6⟩ := Wk.tops (l := { l with nx := 4 }) (r := r) vq3.w rfl
       dsimp only at t3 t4
       have VC := fun m => (callsIn_wide (n := m)).2 (valueSign_any (s := { s with op := { l with nx := 4 } :: r }) LW.c vq3.w.drew hf hqo)
       rw [show sgnW O E.L { s with op := { l with nx := 4 } :: r } q = sgnW O E.L s q from rfl, hsg] at VC
       have HV3 : Hid _ := vq3
       clear vq3 t0 t1 t2 t5 t6 y2 y3 y4 y5
       refine region_pickN (Sq V3) (by kernel_rfl) ?_
       show Any _ _ _ _ _ _ 25 _ ⟨#[_,_,_,_,_,_,_,_,_,_,_,_,_,_,_,_,_,_,_,_,_,_,_,_,_,_,_,_,_,_,_,_,_,_,_,_,_,_,_,_,_,_,_,_,_,_,_,_,_,_,_,_,_,_,_,_,_,_,_,_,_,_,_,_,_,_,_,_,_,_,_,_,_,_,_,_,_,_], []⟩ V3.drew
       refine .tp 0 (.pointer (some ⟨wb, 0, none⟩)) (Sq.drew V3) ?_
       refine .tl 1 (.agg #[.int .i64 (q.i : Nat), .int .i64 (q.k : Nat)]) rfl (fun w hw => by have a1 := hw.cell y0; have a2 := hw.cell y1; go_simp) (Sq.drew V3) ?_
       refine .on 2 rfl rfl fun K hK => ?_
       go_simp
       first | refine tr2 ?_ | refine tr1 ?_
       refine (VC _).mono ?_
       clear VC
       rintro en V4 ⟨rfl, hB4⟩
       have B4 := ((Below.refl _ V3).drew).trans (hB4.mono (Nat.le_refl _))
       refine hK _ _ (Sq.of B4) ?_
       clear hK K
       show Any _ _ _ _ _ _ 22 _ ⟨#[_,_,_,_,_,_,_,_,_,_,_,_,_,_,_,_,_,_,_,_,_,_,_,_,_,_,_,_,_,_,_,_,_,_,_,_,_,_,_,_,_,_,_,_,_,_,_,_,_,_,_,_,_,_,_,_,_,_,_,_,_,_,_,_,_,_,_,_,_,_,_,_,_,_,_,_,_,_], []⟩ V4
       refine .tp 3 (.bool false) (Sq.of B4) ?_
       refine .tp 4 (.bool false) (Sq.of B4) ?_
       refine .tp 5 (.pointer (some ⟨B, 0, none⟩)) (Sq.of B4) ?_
       refine .tl 6 (.int .i64 (q.i : Nat)) rfl (fun w hw => by have a1 := hw.cell y0; go_simp) (Sq.of B4) ?_
       refine .tp 7 (.pointer (some ⟨g, r.length * 7, none⟩)) (Sq.of B4) ?_
       refine .tp 8 (.pointer (some ⟨g, r.length * 7, none⟩)) (Sq.of B4) ?_
       show Any _ _ _ _ _ _ 16 _ ⟨#[_,_,_,_,_,_,_,_,_,_,_,_,_,_,_,_,_,_,_,_,_,_,_,_,_,_,_,_,_,_,_,_,_,_,_,_,_,_,_,_,_,_,_,_,_,_,_,_,_,_,_,_,_,_,_,_,_,_,_,_,_,_,_,_,_,_,_,_,_,_,_,_,_,_,_,_,_,_], []⟩ _
       refine .tp 9 (.pointer (some ⟨g, r.length * 7 + 3, none⟩)) (Sq.of B4) ?_
       refine .tp 10 (.pointer (some ⟨g, r.length * 7 + 3, none⟩)) (Sq.of B4) ?_
       refine .tl 11 (.int .i64 (l.bi : Nat)) rfl (fun w hw => by have a1 := hw.cell t3; go_simp) (Sq.of B4) ?_
       refine .tl 12 (.bool false) rfl (fun w _ => by have hic := HIC.out; go_simp) (Sq.of B4) ?_
       refine .tp 13 (.bool false) (Sq.of B4) ?_
       refine .tp 14 (.bool false) (Sq.of B4) ?_
       show Any _ _ _ _ _ _ 10 _ ⟨#[_,_,_,_,_,_,_,_,_,_,_,_,_,_,_,_,_,_,_,_,_,_,_,_,_,_,_,_,_,_,_,_,_,_,_,_,_,_,_,_,_,_,_,_,_,_,_,_,_,_,_,_,_,_,_,_,_,_,_,_,_,_,_,_,_,_,_,_,_,_,_,_,_,_,_,_,_,_], []⟩ _
       refine .tp 15 (.pointer (some ⟨B, 1, none⟩)) (Sq.of B4) ?_
       refine .tl 16 (.int .i64 (q.k : Nat)) rfl (fun w hw => by have a1 := hw.cell y1; go_simp) (Sq.of B4) ?_
       refine .tp 17 (.pointer (some ⟨g, r.length * 7, none⟩)) (Sq.of B4) ?_
       refine .tp 18 (.pointer (some ⟨g, r.length * 7, none⟩)) (Sq.of B4) ?_
       refine .tp 19 (.pointer (some ⟨g, r.length * 7 + 3, none⟩)) (Sq.of B4) ?_
       refine .tp 20 (.pointer (some ⟨g, r.length * 7 + 3 + 1, none⟩)) (Sq.of B4) ?_
       show Any _ _ _ _ _ _ 4 _ ⟨#[_,_,_,_,_,_,_,_,_,_,_,_,_,_,_,_,_,_,_,_,_,_,_,_,_,_,_,_,_,_,_,_,_,_,_,_,_,_,_,_,_,_,_,_,_,_,_,_,_,_,_,_,_,_,_,_,_,_,_,_,_,_,_,_,_,_,_,_,_,_,_,_,_,_,_,_,_,_], []⟩ _
       refine .tl 21 (.int .i64 (l.bk : Nat)) rfl (fun w hw => by have a1 := hw.cell t4; go_simp) (Sq.of B4) ?_
       refine .tl 22 (.int .i64 ((q.k : Int) - (l.bk : Int))) rfl (fun w _ => by have hwr := HWR.out; go_simp) (Sq.of B4) ?_
       refine .tp 23 (.bool false) (Sq.of B4) ?_
       refine .tp 24 (.bool false) (Sq.of B4) ?_
       refine Any.done (by kernel_rfl) ?_
       rename_i Kb hKb
       refine hKb _ _ ?_
       clear hKb
       have vq4 := HV3.out.on B4
       clear HV3 y0 y1 t3 t4 B4 hB4
       have DC := fun m => (callsIn_wide (n := m)).2 (tooDeep_any vq4.w hf (by have := hs.op; rw [hop] at this; simp at this |-; omega) s.ta (by have := hs.ta; omega))
       rw [show deeW E.d { s with op := { l with nx := 4 } :: r } s.ta = deeW E.d s s.ta by unfold deeW; rw [hop]; rfl, hd] at DC
       obtain ⟨z4, z5, z7, z8, z9⟩ := (show Kw w V4 wb E { s with op := { l with nx := 4 } :: r } (.slice (some ⟨g, 0, none⟩) (r.length + 1) cap) tv from ⟨vq4.k, vq4.w⟩).cells
       dsimp only at z8
       have HV4 : Hid _ := vq4.k
       clear vq4 z4 z5 z7 z9
       gi_wp2
       first | refine tr2 ?_ | refine tr1 ?_
       gi_at_call 111
       refine (DC _).mono ?_
       clear DC
       rintro en V5 ⟨rfl, hB5⟩
       gi_wp2
       go_ret
       exact ⟨HV4.out.trans (Kee.of hB5), rfl⟩
      | false =>
       rw [if_neg (by decide)]
       obtain ⟨tg, tc, rfl, -, -⟩ := h.to.form (by omega)
       obtain ⟨RR, hRR⟩ : ∃ RR, paiS { ({ s with op := { l with nx := 4 } :: r } : St) with to := s.to.set l.ho evP } s.ta = RR := ⟨_, rfl⟩
       rw [hRR]
       have HRR : Hid (paiS { ({ s with op := { l with nx := 4 } :: r } : St) with to := s.to.set l.ho evP } s.ta = RR) := hRR
       clear hRR
       gi_wp2
       first | refine tr2 ?_ | refine tr1 ?_
       gi_at_call 73
       refine (TP _).mono ?_
       clear TP
       rintro en V1 ⟨rfl, hB1⟩
       have kw1 := HQ0.out.on hB1
       obtain ⟨t0, t1, t2, t3, t4, t5, t6⟩ := Wk.tops (l := l) (r := r) kw1.w hop
       have f2 := t6 (r.length * 7 + 2)
       have kw2 := Kw.setL (l := l) (l' := { l with nx := 4 }) (r := r) (j := 2) (x := .int .u8 4) kw1 hop (by decide) rfl
       obtain ⟨c4, c5, c7, c8, c9⟩ := kw2.cells
       have NX := fun m => (callsIn_wide (n := m)).2 (next_any LW.c LW.l kw2.w hf hp)
       rw [hr] at NX
       simp only [nexV, Pl.v] at NX
       dsimp only at c4 c5 c8
       have HK2 : Hid _ := kw2
       clear kw1 kw2 t6 HQ0 hB1
       gi_wp2
       first | refine tr2 ?_ | refine tr1 ?_
       gi_at_call 98
       refine (NX _).mono ?_
       clear NX c4 c5 c7 c8 c9 t0 t1 t2 t3 t4 t5 f2
       rintro en V2 ⟨rfl, hB2⟩
       have kw3 := HK2.out.on hB2
       clear HK2 hB2
       have vq3 : Vq w (V2.alloc (.cells #[.int .i64 (q.i : Nat), .int .i64 (q.k : Nat)] 60)) wb E { s with op := { l with nx := 4 } :: r } (.slice (some ⟨g, 0, none⟩) (r.length + 1) cap) (.slice (some ⟨tg, 0, none⟩) s.to.length tc) V2.heap.size q := ⟨kw3.k.trans (Kee.alloc wb V2 _), kw3.w.on (below_alloc V2 _), by show _ = _; exact World.alloc_heap_new V2 _⟩
       clear kw3
       gi_wp2
       generalize V2.alloc (.cells #[.int .i64 (q.i : Nat), .int .i64 (q.k : Nat)] 60) = V3 at vq3 |-
       generalize V2.heap.size = B at vq3 |-
       obtain ⟨y0, y1, y2, y3, y4, y5⟩ := vq3.cells
       obtain ⟨t0, t1, t2, t3, t4, t5, t6⟩ := Wk.tops (l := { l with nx := 4 }) (r := r) vq3.w rfl
       dsimp only at t3 t4
       have VC := fun m => (callsIn_wide (n := m)).2 (valueSign_any (s := { s with op := { l with nx := 4 } :: r }) LW.c vq3.w.drew hf hqo)
       rw [show sgnW O E.L { s with op := { l with nx := 4 } :: r } q = sgnW O E.L s q from rfl, hsg] at VC
       have HV3 : Hid _ := vq3
       clear vq3 t0 t1 t2 t5 t6 y2 y3 y4 y5
       refine region_pickN (Sq V3) (by kernel_rfl) ?_
       show Any _ _ _ _ _ _ 25 _ ⟨#[_,_,_,_,_,_,_,_,_,_,_,_,_,_,_,_,_,_,_,_,_,_,_,_,_,_,_,_,_,_,_,_,_,_,_,_,_,_,_,_,_,_,_,_,_,_,_,_,_,_,_,_,_,_,_,_,_,_,_,_,_,_,_,_,_,_,_,_,_,_,_,_,_,_,_,_,_,_], []⟩ V3.drew
       refine .tp 0 (.pointer (some ⟨wb, 0, none⟩)) (Sq.drew V3) ?_
       refine .tl 1 (.agg #[.int .i64 (q.i : Nat), .int .i64 (q.k : Nat)]) rfl (fun w hw => by have a1 := hw.cell y0; have a2 := hw.cell y1; go_simp) (Sq.drew V3) ?_
       refine .on 2 rfl rfl fun K hK => ?_
       go_simp
       first | refine tr2 ?_ | refine tr1 ?_
       refine (VC _).mono ?_
       clear VC
       rintro en V4 ⟨rfl, hB4⟩
       have B4 := ((Below.refl _ V3).drew).trans (hB4.mono (Nat.le_refl _))
       refine hK _ _ (Sq.of B4) ?_
       clear hK K
       show Any _ _ _ _ _ _ 22 _ ⟨#[_,_,_,_,_,_,_,_,_,_,_,_,_,_,_,_,_,_,_,_,_,_,_,_,_,_,_,_,_,_,_,_,_,_,_,_,_,_,_,_,_,_,_,_,_,_,_,_,_,_,_,_,_,_,_,_,_,_,_,_,_,_,_,_,_,_,_,_,_,_,_,_,_,_,_,_,_,_], []⟩ V4
       refine .tp 3 (.bool false) (Sq.of B4) ?_
       refine .tp 4 (.bool false) (Sq.of B4) ?_
       refine .tp 5 (.pointer (some ⟨B, 0, none⟩)) (Sq.of B4) ?_
       refine .tl 6 (.int .i64 (q.i : Nat)) rfl (fun w hw => by have a1 := hw.cell y0; go_simp) (Sq.of B4) ?_
       refine .tp 7 (.pointer (some ⟨g, r.length * 7, none⟩)) (Sq.of B4) ?_
       refine .tp 8 (.pointer (some ⟨g, r.length * 7, none⟩)) (Sq.of B4) ?_
       show Any _ _ _ _ _ _ 16 _ ⟨#[_,_,_,_,_,_,_,_,_,_,_,_,_,_,_,_,_,_,_,_,_,_,_,_,_,_,_,_,_,_,_,_,_,_,_,_,_,_,_,_,_,_,_,_,_,_,_,_,_,_,_,_,_,_,_,_,_,_,_,_,_,_,_,_,_,_,_,_,_,_,_,_,_,_,_,_,_,_], []⟩ _
       refine .tp 9 (.pointer (some ⟨g, r.length * 7 + 3, none⟩)) (Sq.of B4) ?_
       refine .tp 10 (.pointer (some ⟨g, r.length * 7 + 3, none⟩)) (Sq.of B4) ?_
       refine .tl 11 (.int .i64 (l.bi : Nat)) rfl (fun w hw => by have a1 := hw.cell t3; go_simp) (Sq.of B4) ?_
       refine .tl 12 (.bool false) rfl (fun w _ => by have hic := HIC.out; go_simp) (Sq.of B4) ?_
       refine .tp 13 (.bool false) (Sq.of B4) ?_
       refine .tp 14 (.bool false) (Sq.of B4) ?_
       show Any _ _ _ _ _ _ 10 _ ⟨#[_,_,_,_,_,_,_,_,_,_,_,_,_,_,_,_,_,_,_,_,_,_,_,_,_,_,_,_,_,_,_,_,_,_,_,_,_,_,_,_,_,_,_,_,_,_,_,_,_,_,_,_,_,_,_,_,_,_,_,_,_,_,_,_,_,_,_,_,_,_,_,_,_,_,_,_,_,_], []⟩ _
       refine .tp 15 (.pointer (some ⟨B, 1, none⟩)) (Sq.of B4) ?_
       refine .tl 16 (.int .i64 (q.k : Nat)) rfl (fun w hw => by have a1 := hw.cell y1; go_simp) (Sq.of B4) ?_
       refine .tp 17 (.pointer (some ⟨g, r.length * 7, none⟩)) (Sq.of B4) ?_
       refine .tp 18 (.pointer (some ⟨g, r.length * 7, none⟩)) (Sq.of B4) ?_
       refine .tp 19 (.pointer (some ⟨g, r.length * 7 + 3, none⟩)) (Sq.of B4) ?_
       refine .tp 20 (.pointer (some ⟨g, r.length * 7 + 3 + 1, none⟩)) (Sq.of B4) ?_
       show Any _ _ _ _ _ _ 4 _ ⟨#[_,_,_,_,_,_,_,_,_,_,_,_,_,_,_,_,_,_,_,_,_,_,_,_,_,_,_,_,_,_,_,_,_,_,_,_,_,_,_,_,_,_,_,_,_,_,_,_,_,_,_,_,_,_,_,_,_,_,_,_,_,_,_,_,_,_,_,_,_,_,_,_,_,_,_,_,_,_], []⟩ _
       refine .tl 21 (.int .i64 (l.bk : Nat)) rfl (fun w hw => by have a1 := hw.cell t4; go_simp) (Sq.of B4) ?_
       refine .tl 22 (.int .i64 ((q.k : Int) - (l.bk : Int))) rfl (fun w _ => by have hwr := HWR.out; go_simp) (Sq.of B4) ?_
       refine .tp 23 (.bool false) (Sq.of B4) ?_
       refine .tp 24 (.bool false) (Sq.of B4) ?_
       refine Any.done (by kernel_rfl) ?_
       rename_i Kb hKb
       refine hKb _ _ ?_
       clear hKb
       have vq4 := HV3.out.on B4
       clear HV3 y0 y1 t3 t4 B4 hB4
       have DC := fun m => (callsIn_wide (n := m)).2 (tooDeep_any vq4.w hf (by have := hs.op; rw [hop] at this; simp at this |-; omega) s.ta (by have := hs.ta; omega))
       rw [show deeW E.d { s with op := { l with nx := 4 } :: r } s.ta = deeW E.d s s.ta by unfold deeW; rw [hop]; rfl, hd] at DC
       have kw4 : Kw w V4 wb E { s with op := { l with nx := 4 } :: r } (.slice (some ⟨g, 0, none⟩) (r.length + 1) cap) (.slice (some ⟨tg, 0, none⟩) s.to.length tc) := ⟨vq4.k, vq4.w⟩
       obtain ⟨z4, z5, z7, z8, z9⟩ := kw4.cells
       dsimp only at z8
       have HK4 : Hid _ := kw4
       clear vq4 kw4 z4 z5 z7 z9
       gi_wp2
       first | refine tr2 ?_ | refine tr1 ?_
       gi_at_call 111
       refine (DC _).mono ?_
       clear DC z8
       rintro en V5 ⟨rfl, hB5⟩
       have kw5 := HK4.out.on hB5
       clear HK4 hB5
       obtain ⟨z4, z5, z7, z8, z9⟩ := kw5.cells
       obtain ⟨u0, u1, u2, u3, u4, u5, u6⟩ := Wk.tops (l := { l with nx := 4 }) (r := r) kw5.w rfl
       dsimp only at u5
       have fz := fun o => row_frozen kw5.w.to o
       have ce := fun (j : Nat) (hj : j < 6) => (show ∃ v, V5.cell? ⟨tg, l.ho * 6 + j, none⟩ = some v from by
        have hlen : l.ho * 6 + j < (flE s.to).length := by rw [flE_len]; omega
        exact ⟨_, row_cell kw5.w.to (l.ho * 6 + j) _ (List.getElem?_eq_getElem hlen)⟩)
       have TH : V5.drew.there tg (l.ho * 6) 6 := fun j hj => ⟨by obtain ⟨v, hv⟩ := ce j hj; rw [show V5.drew.cell? ⟨tg, l.ho * 6 + j, none⟩ = V5.cell? ⟨tg, l.ho * 6 + j, none⟩ from rfl, hv]; rfl, fz _⟩
       have hho' : (l.ho : Int) < (s.to.length : Int) := by omega
       have hto' : (s.to.length : Int) <= 500000000 := by have := hs.to; omega
       have hse := kw5.w.drew.setE hho evP
       have kw6 := Kw.kee kw5.drew hse.2 hse.1
       simp only [evP] at kw6
       have hsp : Sml { ({ s with op := { l with nx := 4 } :: r } : St) with to := s.to.set l.ho evP } := by
        have a := (hs.setTop (l' := { l with nx := 4 }) hop rfl s.p).sml
        exact ⟨by have := a.to; show (s.to.set l.ho evP).length <= _; rw [List.length_set]; exact this, a.op, a.ta, a.la⟩
       have OC := fun m => (callsIn_wide (n := m)).2 (openPair_any (l := { l with nx := 4 }) (r := r) kw6.w hsp rfl s.ta)
       simp only [evP] at HRR
       rw [HRR.out] at OC
       obtain ⟨x4, x5, x7, x8, x9⟩ := kw6.cells
       dsimp only at x8
       have HK6 : Hid _ := kw6.k
       obtain ⟨htw, curt, htt⟩ := row_type kw5.w.to (g := tg) rfl
       obtain ⟨-, curg, hgg⟩ := row_type kw5.w.op (g := g) rfl
       have hgt : g ≠ tg := fun e => by rw [e, htt] at hgg; cases hgg
       have hwt : wb ≠ tg := by omega
       have T0 : Tw V5 wb g V5.drew := ⟨rfl, rfl⟩
       have T1 : Tw V5 wb g ((((((V5.drew.setCell ⟨tg, l.ho * 6, none⟩ (.int .i64 5)).setCell ⟨tg, l.ho * 6 + 1, none⟩ (.string ⟨#[]⟩)).setCell ⟨tg, l.ho * 6 + 2, none⟩ (.string ⟨#[]⟩)).setCell ⟨tg, l.ho * 6 + 3, none⟩ (.string ⟨#[]⟩)).setCell ⟨tg, l.ho * 6 + 4, none⟩ (.int .i64 0)).setCell ⟨tg, l.ho * 6 + 5, none⟩ (.bool true)) := by
        constructor
        ·rw [Below.heap_setCell _ _ _ _ hwt, Below.heap_setCell _ _ _ _ hwt, Below.heap_setCell _ _ _ _ hwt, Below.heap_setCell _ _ _ _ hwt, Below.heap_setCell _ _ _ _ hwt, Below.heap_setCell _ _ _ _ hwt]; rfl
        ·rw [Below.heap_setCell _ _ _ _ hgt, Below.heap_setCell _ _ _ _ hgt, Below.heap_setCell _ _ _ _ hgt, Below.heap_setCell _ _ _ _ hgt, Below.heap_setCell _ _ _ _ hgt, Below.heap_setCell _ _ _ _ hgt]; rfl
       clear htw htt hgg hgt hwt
       clear kw5 kw6 hse u0 u1 u2 u3 u4 u6 z4 z5 z8 z9 fz ce x4 x5 x7 x9
       gi_wp2
       refine region_pickN (Tw V5 wb g) (by kernel_rfl) ?_
       show Any _ _ _ _ _ _ 11 _ ⟨#[_,_,_,_,_,_,_,_,_,_,_,_,_,_,_,_,_,_,_,_,_,_,_,_,_,_,_,_,_,_,_,_,_,_,_,_,_,_,_,_,_,_,_,_,_,_,_,_,_,_,_,_,_,_,_,_,_,_,_,_,_,_,_,_,_,_,_,_,_,_,_,_,_,_,_,_,_,_], []⟩ V5.drew
       refine .tp 0 (.pointer (some ⟨wb, 0, none⟩)) T0 ?_
       refine .tp 1 (.pointer (some ⟨wb, 0, none⟩)) T0 ?_
       refine .tp 2 (.pointer (some ⟨wb, 7, none⟩)) T0 ?_
       refine .tl 3 (.slice (some ⟨tg, 0, none⟩) s.to.length tc) rfl (fun w hw => by have a1 := hw.cell z7; go_simp) T0 ?_
       refine .tp 4 (.pointer (some ⟨g, r.length * 7, none⟩)) T0 ?_
       refine .tp 5 (.pointer (some ⟨g, r.length * 7, none⟩)) T0 ?_
       show Any _ _ _ _ _ _ 5 _ ⟨#[_,_,_,_,_,_,_,_,_,_,_,_,_,_,_,_,_,_,_,_,_,_,_,_,_,_,_,_,_,_,_,_,_,_,_,_,_,_,_,_,_,_,_,_,_,_,_,_,_,_,_,_,_,_,_,_,_,_,_,_,_,_,_,_,_,_,_,_,_,_,_,_,_,_,_,_,_,_], []⟩ _
       refine .tp 6 (.pointer (some ⟨g, r.length * 7 + 5, none⟩)) T0 ?_
       refine .tl 7 (.int .i64 (l.ho : Nat)) rfl (fun w hw => by have a1 := hw.box u5; go_simp) T0 ?_
       refine .tp 8 (.agg #[.int .i64 5, .string ⟨#[]⟩, .string ⟨#[]⟩, .string ⟨#[]⟩, .int .i64 0, .bool true]) T0 ?_
       refine .tp 9 (.pointer (some ⟨tg, l.ho * 6, none⟩)) T0 ?_
       refine .on 10 rfl rfl fun K hK => ?_
       refine opIn_store_mid 50 _ _ rfl tg (l.ho * 6) #[.int .i64 5, .string ⟨#[]⟩, .string ⟨#[]⟩, .string ⟨#[]⟩, .int .i64 0, .bool true] rfl rfl TH (by kernel_rfl) (by simp [Value.oneCell']) ?_
       refine hK _ _ T1 ?_
       clear hK K
       show Any _ _ _ _ _ _ 0 _ ⟨#[_,_,_,_,_,_,_,_,_,_,_,_,_,_,_,_,_,_,_,_,_,_,_,_,_,_,_,_,_,_,_,_,_,_,_,_,_,_,_,_,_,_,_,_,_,_,_,_,_,_,_,_,_,_,_,_,_,_,_,_,_,_,_,_,_,_,_,_,_,_,_,_,_,_,_,_,_,_], []⟩ ((((((V5.drew.setCell ⟨tg, l.ho * 6, none⟩ (.int .i64 5)).setCell ⟨tg, l.ho * 6 + 1, none⟩ (.string ⟨#[]⟩)).setCell ⟨tg, l.ho * 6 + 2, none⟩ (.string ⟨#[]⟩)).setCell ⟨tg, l.ho * 6 + 3, none⟩ (.string ⟨#[]⟩)).setCell ⟨tg, l.ho * 6 + 4, none⟩ (.int .i64 0)).setCell ⟨tg, l.ho * 6 + 5, none⟩ (.bool true))
       refine Any.done (by kernel_rfl) ?_
       rename_i Kb hKb
       refine hKb _ _ ?_
       clear hKb T0 T1 TH z7 u5
       generalize (((((V5.drew.setCell ⟨tg, l.ho * 6, none⟩ (.int .i64 5)).setCell ⟨tg, l.ho * 6 + 1, none⟩ (.string ⟨#[]⟩)).setCell ⟨tg, l.ho * 6 + 2, none⟩ (.string ⟨#[]⟩)).setCell ⟨tg, l.ho * 6 + 3, none⟩ (.string ⟨#[]⟩)).setCell ⟨tg, l.ho * 6 + 4, none⟩ (.int .i64 0)).setCell ⟨tg, l.ho * 6 + 5, none⟩ (.bool true) = V6 at x8 OC HK6 |-
       gi_wp2
       first | refine tr2 ?_ | refine tr1 ?_
       gi_at_call 123
       refine (OC _).mono ?_
       clear OC
       rintro en V7 ⟨⟨v7, rfl⟩, hk7, ov7, hw7⟩
       gi_wp2
       go_ret
       exact ⟨HK6.out.trans hk7, rfl, ov7, _, hw7⟩
    ·have hic : ¬ (q.i : Int) = (l.bi : Int) := by omega
     rw [if_pos (.inr (.inl hi))]
     clear hi
     gi_wp2
     first | refine tr2 ?_ | refine tr1 ?_
     gi_at_call 73
     refine (TP _).mono ?_
     clear TP
     rintro en V1 ⟨rfl, hB1⟩
     have kw1 := HQ0.out.on hB1
     obtain ⟨t0, t1, t2, t3, t4, t5, t6⟩ := Wk.tops (l := l) (r := r) kw1.w hop
     have f2 := t6 (r.length * 7 + 2)
     have kw2 := Kw.setL (l := l) (l' := { l with nx := 4 }) (r := r) (j := 2) (x := .int .u8 4) kw1 hop (by decide) rfl
     obtain ⟨c4, c5, c7, c8, c9⟩ := kw2.cells
     have NX := fun m => (callsIn_wide (n := m)).2 (next_any LW.c LW.l kw2.w hf hp)
     rw [hr] at NX
     simp only [nexV, Pl.v] at NX
     dsimp only at c4 c5 c8
     have HK2 : Hid _ := kw2
     clear kw1 kw2 t6 HQ0 hB1
     gi_wp2
     first | refine tr2 ?_ | refine tr1 ?_
     gi_at_call 98
     refine (NX _).mono ?_
     clear NX c4 c5 c7 c8 c9 t0 t1 t2 t3 t4 t5 f2
     rintro en V2 ⟨rfl, hB2⟩
     have kw3 := HK2.out.on hB2
     clear HK2 hB2
     have vq3 : Vq w (V2.alloc (.cells #[.int .i64 (q.i : Nat), .int .i64 (q.k : Nat)] 60)) wb E { s with op := { l with nx := 4 } :: r } (.slice (some ⟨g, 0, none⟩) (r.length + 1) cap) tv V2.heap.size q := ⟨kw3.k.trans (Kee.alloc wb V2 _), kw3.w.on (below_alloc V2 _), by show _ = _; exact World.alloc_heap_new V2 _⟩
     clear kw3
     gi_wp2
     generalize V2.alloc (.cells #[.int .i64 (q.i : Nat), .int .i64 (q.k : Nat)] 60) = V3 at vq3 |-
     generalize V2.heap.size = B at vq3 |-
     obtain ⟨y0, y1, y2, y3, y4, y5⟩ := vq3.cells
     obtain ⟨t0, t1, t2, t3, t4, t5, t6⟩ := Wk.tops (l := { l with nx := 4 }) (r := r) vq3.w rfl
     dsimp only at t3 t4
     have VC := fun m => (callsIn_wide (n := m)).2 (valueSign_any (s := { s with op := { l with nx := 4 } :: r }) LW.c vq3.w.drew hf hqo)
     rw [show sgnW O E.L { s with op := { l with nx := 4 } :: r } q = sgnW O E.L s q from rfl, hsg] at VC
     have HV3 : Hid _ := vq3
     clear vq3 t0 t1 t2 t5 t6 y2 y3 y4 y5
     refine region_pickN (Sq V3) (by kernel_rfl) ?_
     show Any _ _ _ _ _ _ 25 _ ⟨#[_,_,_,_,_,_,_,_,_,_,_,_,_,_,_,_,_,_,_,_,_,_,_,_,_,_,_,_,_,_,_,_,_,_,_,_,_,_,_,_,_,_,_,_,_,_,_,_,_,_,_,_,_,_,_,_,_,_,_,_,_,_,_,_,_,_,_,_,_,_,_,_,_,_,_,_,_,_], []⟩ V3.drew
     refine .tp 0 (.pointer (some ⟨wb, 0, none⟩)) (Sq.drew V3) ?_
     refine .tl 1 (.agg #[.int .i64 (q.i : Nat), .int .i64 (q.k : Nat)]) rfl (fun w hw => by have a1 := hw.cell y0; have a2 := hw.cell y1; go_simp) (Sq.drew V3) ?_
     refine .on 2 rfl rfl fun K hK => ?_
     go_simp
     first | refine tr2 ?_ | refine tr1 ?_
     refine (VC _).mono ?_
     clear VC
     rintro en V4 ⟨rfl, hB4⟩
     have B4 := ((Below.refl _ V3).drew).trans (hB4.mono (Nat.le_refl _))
     refine hK _ _ (Sq.of B4) ?_
     clear hK K
     show Any _ _ _ _ _ _ 22 _ ⟨#[_,_,_,_,_,_,_,_,_,_,_,_,_,_,_,_,_,_,_,_,_,_,_,_,_,_,_,_,_,_,_,_,_,_,_,_,_,_,_,_,_,_,_,_,_,_,_,_,_,_,_,_,_,_,_,_,_,_,_,_,_,_,_,_,_,_,_,_,_,_,_,_,_,_,_,_,_,_], []⟩ V4
     refine .tp 3 (.bool false) (Sq.of B4) ?_
     refine .tp 4 (.bool false) (Sq.of B4) ?_
     refine .tp 5 (.pointer (some ⟨B, 0, none⟩)) (Sq.of B4) ?_
     refine .tl 6 (.int .i64 (q.i : Nat)) rfl (fun w hw => by have a1 := hw.cell y0; go_simp) (Sq.of B4) ?_
     refine .tp 7 (.pointer (some ⟨g, r.length * 7, none⟩)) (Sq.of B4) ?_
     refine .tp 8 (.pointer (some ⟨g, r.length * 7, none⟩)) (Sq.of B4) ?_
     show Any _ _ _ _ _ _ 16 _ ⟨#[_,_,_,_,_,_,_,_,_,_,_,_,_,_,_,_,_,_,_,_,_,_,_,_,_,_,_,_,_,_,_,_,_,_,_,_,_,_,_,_,_,_,_,_,_,_,_,_,_,_,_,_,_,_,_,_,_,_,_,_,_,_,_,_,_,_,_,_,_,_,_,_,_,_,_,_,_,_], []⟩ _
     refine .tp 9 (.pointer (some ⟨g, r.length * 7 + 3, none⟩)) (Sq.of B4) ?_
     refine .tp 10 (.pointer (some ⟨g, r.length * 7 + 3, none⟩)) (Sq.of B4) ?_
     refine .tl 11 (.int .i64 (l.bi : Nat)) rfl (fun w hw => by have a1 := hw.cell t3; go_simp) (Sq.of B4) ?_
     refine .tp 12 (.bool true) (Sq.of B4) ?_
     refine .tp 13 (.bool true) (Sq.of B4) ?_
     refine .tp 14 (.bool true) (Sq.of B4) ?_
     show Any _ _ _ _ _ _ 10 _ ⟨#[_,_,_,_,_,_,_,_,_,_,_,_,_,_,_,_,_,_,_,_,_,_,_,_,_,_,_,_,_,_,_,_,_,_,_,_,_,_,_,_,_,_,_,_,_,_,_,_,_,_,_,_,_,_,_,_,_,_,_,_,_,_,_,_,_,_,_,_,_,_,_,_,_,_,_,_,_,_], []⟩ _
     refine .ts 15 (Sq.of B4) ?_
     refine .ts 16 (Sq.of B4) ?_
     refine .ts 17 (Sq.of B4) ?_
     refine .ts 18 (Sq.of B4) ?_
     refine .ts 19 (Sq.of B4) ?_
     refine .ts 20 (Sq.of B4) ?_
     show Any _ _ _ _ _ _ 4 _ ⟨#[_,_,_,_,_,_,_,_,_,_,_,_,_,_,_,_,_,_,_,_,_,_,_,_,_,_,_,_,_,_,_,_,_,_,_,_,_,_,_,_,_,_,_,_,_,_,_,_,_,_,_,_,_,_,_,_,_,_,_,_,_,_,_,_,_,_,_,_,_,_,_,_,_,_,_,_,_,_], []⟩ _
     refine .ts 21 (Sq.of B4) ?_
     refine .ts 22 (Sq.of B4) ?_
     refine .ts 23 (Sq.of B4) ?_
     refine .tp 24 (.bool true) (Sq.of B4) ?_
     refine Any.done (by kernel_rfl) ?_
     rename_i Kb hKb
     refine hKb _ _ ?_
     clear hKb
     have vq4 := HV3.out.on B4
     clear HV3 y0 y1 t3 t4 B4 hB4
     have HV4 : Hid _ := vq4
     clear vq4
     gi_wp2
     go_ret
     exact ⟨HV4.out.k, rfl, _, _, HV4.out.w⟩
end
section
variable {w : World} {wb : Nat} {E : Env} {s : St} {ov tv : Value} {O : Orc} {Tb : World -> Prop} {l : Lv} {r : List Lv}
theorem goAhead_any (LW : Low O Tb) (BG : Begs O Tb wb E) (h : Wk w wb E s ov tv) (hs : Smx s) (hf : Fine E) (hp : Okp E s.p) (hop : s.op = l :: r) (hho : l.nx = 1 -> l.ho < s.to.length) (hbk : l.bk <= 1048576) (ht : Tb w) (h1 : 0 < wb) :
  Calls Tryz.prog 42 #[(.pointer (some ⟨wb, 0, none⟩))] w fun en w' => Post wb E w (stpW O E.L E.n E.d E.b s) en w' := by
 obtain ⟨g, cap, rfl, -⟩ := h.top hop
 have TC := top_any (l := l) h (hs.sml.rl hop)
 have HQ0 : Hid (Kw w w wb E s (.slice (some ⟨g, 0, none⟩) (r.length + 1) cap) tv) := ⟨Kee.refl _ _, h⟩
 have hwl := h.lt
 unfold stpW
 rw [hop]
 dsimp only
 by_cases h0 : l.nx = 0
 ·rw [if_pos h0]
  have hnx : (l.nx : Int) = 0 := by omega
  have CX : Hid (∀ V, Kw w V wb E s (.slice (some ⟨g, 0, none⟩) (r.length + 1) cap) tv -> Calls Tryz.prog 74 #[(.pointer (some ⟨wb, 0, none⟩))] V fun en w' => Post wb E V (entW O E.L E.n E.d E.b s l) en w') := fun V hV => entry_any LW BG hV.w hs hf hp hop (LW.keep ht hV.k (by omega) h1) h1
  generalize entW O E.L E.n E.d E.b s l = RR at CX |-
  clear h BG h0
  go_enter Tryz.func42, Tryz.ntmps42
  go_wp2_with (first | (go_at_call 73; refine TC.mono ?_; clear TC; rintro en V1 ⟨rfl, hB1⟩; have hq1 := HQ0.out.on hB1; obtain ⟨t0, t1, t2, t3, t4, t5, t6⟩ := Wk.tops (l := l) (r := r) hq1.w hop; rw [hnx] at t2; have CC := CX.out V1 hq1; have HQ1 : Hid _ := hq1; clear hq1) | (go_at_call 74; refine CC.mono ?_; clear CC; rintro en V2 hpo; have HP := hpo.pre HQ1.out.k; obtain ⟨e2, rfl⟩ := hpo.ret; clear hpo))
  go_ret
  exact HP
 ·rw [if_neg h0]
  by_cases h01 : l.nx = 1
  ·rw [if_pos h01]
   have hnx : (l.nx : Int) = 1 := by omega
   have CX : Hid (∀ V, Kw w V wb E s (.slice (some ⟨g, 0, none⟩) (r.length + 1) cap) tv -> Calls Tryz.prog 75 #[(.pointer (some ⟨wb, 0, none⟩))] V fun en w' => Post wb E V (iteW O E.L E.n E.d s l) en w') := fun V hV => item_any LW hV.w hs hf hp hop (hho h01) hbk
   generalize iteW O E.L E.n E.d s l = RR at CX |-
   clear h BG h0 h01
   go_enter Tryz.func42, Tryz.ntmps42
   go_wp2_with (first | (go_at_call 73; refine TC.mono ?_; clear TC; rintro en V1 ⟨rfl, hB1⟩; have hq1 := HQ0.out.on hB1; obtain ⟨t0, t1, t2, t3, t4, t5, t6⟩ := Wk.tops (l := l) (r := r) hq1.w hop; rw [hnx] at t2; have CC := CX.out V1 hq1; have HQ1 : Hid _ := hq1; clear hq1) | (go_at_call 75; refine CC.mono ?_; clear CC; rintro en V2 hpo; have HP := hpo.pre HQ1.out.k; obtain ⟨e2, rfl⟩ := hpo.ret; clear hpo))
   go_ret
   exact HP
  ·rw [if_neg h01]
   by_cases h02 : l.nx = 2
   ·rw [if_pos h02]
    have hnx : (l.nx : Int) = 2 := by omega
    have CX : Hid (∀ V, Kw w V wb E s (.slice (some ⟨g, 0, none⟩) (r.length + 1) cap) tv -> Calls Tryz.prog 76 #[(.pointer (some ⟨wb, 0, none⟩))] V fun en w' => Post wb E V (valW O E.L E.n E.d E.b s l) en w') := fun V hV => value_any LW BG hV.w hs hf hp hop (LW.keep ht hV.k (by omega) h1) h1
    generalize valW O E.L E.n E.d E.b s l = RR at CX |-
    clear h BG h0 h01 h02
    go_enter Tryz.func42, Tryz.ntmps42
    go_wp2_with (first | (go_at_call 73; refine TC.mono ?_; clear TC; rintro en V1 ⟨rfl, hB1⟩; have hq1 := HQ0.out.on hB1; obtain ⟨t0, t1, t2, t3, t4, t5, t6⟩ := Wk.tops (l := l) (r := r) hq1.w hop; rw [hnx] at t2; have CC := CX.out V1 hq1; have HQ1 : Hid _ := hq1; clear hq1) | (go_at_call 76; refine CC.mono ?_; clear CC; rintro en V2 hpo; have HP := hpo.pre HQ1.out.k; obtain ⟨e2, rfl⟩ := hpo.ret; clear hpo))
    go_ret
    exact HP
   ·rw [if_neg h02]
    by_cases h03 : l.nx = 3
    ·rw [if_pos h03]
     have hnx : (l.nx : Int) = 3 := by omega
     have CX : Hid (∀ V, Kw w V wb E s (.slice (some ⟨g, 0, none⟩) (r.length + 1) cap) tv -> Calls Tryz.prog 77 #[(.pointer (some ⟨wb, 0, none⟩))] V fun en w' => (∃ v, en = .returned v) /\ Kee wb V w' /\ ∃ ov' tv', Wk w' wb E (cloS s) ov' tv') := fun V hV => close_any hV.w hs.sml hop
     clear h BG h0 h01 h02 h03
     go_enter Tryz.func42, Tryz.ntmps42
     go_wp2_with (first | (go_at_call 73; refine TC.mono ?_; clear TC; rintro en V1 ⟨rfl, hB1⟩; have hq1 := HQ0.out.on hB1; obtain ⟨t0, t1, t2, t3, t4, t5, t6⟩ := Wk.tops (l := l) (r := r) hq1.w hop; rw [hnx] at t2; have CC := CX.out V1 hq1; have HQ1 : Hid _ := hq1; clear hq1) | (go_at_call 77; refine CC.mono ?_; clear CC; rintro en V2 ⟨⟨v2, rfl⟩, hk2, hw2⟩))
     go_ret
     exact ⟨HQ1.out.k.trans hk2, rfl, hw2⟩
    ·rw [if_neg h03]
     have n0 : ((l.nx : Int) == 0) = false := by rw [beq_eq_false_iff_ne]; omega
     have n1 : ((l.nx : Int) == 1) = false := by rw [beq_eq_false_iff_ne]; omega
     have n2 : ((l.nx : Int) == 2) = false := by rw [beq_eq_false_iff_ne]; omega
     have n3 : ((l.nx : Int) == 3) = false := by rw [beq_eq_false_iff_ne]; omega
     have CX : Hid (∀ V, Kw w V wb E s (.slice (some ⟨g, 0, none⟩) (r.length + 1) cap) tv -> Calls Tryz.prog 78 #[(.pointer (some ⟨wb, 0, none⟩))] V fun en w' => Post wb E V (comW O E.L E.n s l) en w') := fun V hV => comma_any LW.c LW.l hV.w hs.sml hf hp hop
     generalize comW O E.L E.n s l = RR at CX |-
     clear h BG h0 h01 h02 h03
     go_enter Tryz.func42, Tryz.ntmps42
     go_wp2_with (first | (go_at_call 73; refine TC.mono ?_; clear TC; rintro en V1 ⟨rfl, hB1⟩; have hq1 := HQ0.out.on hB1; obtain ⟨t0, t1, t2, t3, t4, t5, t6⟩ := Wk.tops (l := l) (r := r) hq1.w hop; have CC := CX.out V1 hq1; have HQ1 : Hid _ := hq1; clear hq1) | (go_at_call 78; refine CC.mono ?_; clear CC; rintro en V2 hpo; have HP := hpo.pre HQ1.out.k; obtain ⟨e2, rfl⟩ := hpo.ret; clear hpo))
     go_ret
     exact HP
theorem Lv.c_inj {x y : Lv} (h : x.c = y.c) : x = y := by
 obtain ⟨a1, a2, a3, a4, a5, a6, a7⟩ := x
 obtain ⟨b1, b2, b3, b4, b5, b6, b7⟩ := y
 simp only [Lv.c, List.cons.injEq, Value.int.injEq, Value.bool.injEq, true_and, and_true] at h
 obtain ⟨e1, e2, e3, e4, e5, e6, e7⟩ := h
 congr 1 <;> first | assumption | omega
theorem flL_inj : ∀ (a b : List Lv), a.length = b.length -> flL a = flL b -> a = b
 | [], [], _, _ => rfl
 | [], y :: b, h, _ => by simp at h
 | x :: a, [], h, _ => by simp at h
 | x :: a, y :: b, h, he => by
  rw [flL, flL] at he
  obtain ⟨e1, e2⟩ := List.append_inj he rfl
  rw [Lv.c_inj e1, flL_inj a b (by simpa using h) e2]
theorem Wk.one {s' : St} {ov' tv' : Value} (h : Wk w wb E s ov tv) (k : Wk w wb E s' ov' tv') : s.p = s'.p /\ s.op = s'.op := by
 have hb := h.blk
 rw [k.blk] at hb
 simp only [Option.some.injEq, Obj.cells.injEq, Array.mk.injEq, List.cons.injEq, Value.int.injEq, true_and, and_true] at hb
 obtain ⟨e1, e2, e3, e4, e5⟩ := hb
 subst e3
 refine ⟨?_, ?_⟩
 ·obtain ⟨⟨pi, pk⟩, op, to, ta⟩ := s
  obtain ⟨⟨pi', pk'⟩, op', to', ta'⟩ := s'
  simp only at e1 e2 |-
  congr 1 <;> omega
 ·obtain ⟨a0, a1⟩ := h.op
  obtain ⟨b0, b1⟩ := k.op
  rcases a1 with ⟨ea, na⟩ | ⟨g, cap, cur, ea, -, hg, -, -, -, ht⟩
  ·rcases b1 with ⟨eb, nb⟩ | ⟨g', cap', cur', eb, -⟩
   ·rw [List.eq_nil_of_length_eq_zero na, List.eq_nil_of_length_eq_zero nb]
   ·rw [ea] at eb; cases eb
  ·rcases b1 with ⟨eb, nb⟩ | ⟨g', cap', cur', eb, -, hg', -, -, -, ht'⟩
   ·rw [ea] at eb; cases eb
   ·rw [ea] at eb
    simp only [Value.slice.injEq, Option.some.injEq, Addr.mk.injEq, and_true] at eb
    obtain ⟨e6, hl, -⟩ := eb
    rw [<- e6, hg] at hg'
    cases hg'
    rw [<- hl] at ht'
    have := flL_inj s.op.reverse s'.op.reverse (by simp [hl]) (ht.symm.trans ht')
    simpa using congrArg List.reverse this
end
section
variable {w : World} {wb : Nat} {E : Env} {s : St} {ov tv : Value} {O : Orc} {Tb : World -> Prop} {p : Pl}
theorem wkM_ex : ∃ f : Nat -> Env -> World -> Nat, ∀ (w : World) (wb : Nat) (E : Env) (s : St) (ov tv : Value), Wk w wb E s ov tv -> f wb E w = mea E.L s := by
 classical
 refine ⟨fun wb E w => if h : ∃ s ov tv, Wk w wb E s ov tv then mea E.L h.choose else 0, fun w wb E s ov tv h => ?_⟩
 have hx : ∃ s ov tv, Wk w wb E s ov tv := ⟨s, ov, tv, h⟩
 dsimp only
 rw [dif_pos hx]
 obtain ⟨ov', tv', h'⟩ := hx.choose_spec
 obtain ⟨e1, e2⟩ := h'.one h
 unfold mea
 rw [e1, e2]
def Ndi (O : Orc) (w wr : World) (wb : Nat) (E : Env) (p : Pl) (c : Int) : Prop := Kee wb w wr /\ ((c ≠ 0 /\ ∃ f, nodW O E.L E.n E.d E.b f p = some (.error c)) \/
 (c = 0 /\ ∃ s ov tv, Wk wr wb E s ov tv /\ Iv E.L (16 * remW E.L 0 + 16) s /\ ∀ r, (∃ f, runW O E.L E.n E.d E.b f s = some r) -> ∃ f, nodW O E.L E.n E.d E.b f p = some r))
theorem Iv.smx {C : Nat} (h : Iv E.L C s) (hC : C <= 500000000) : Smx s :=
 ⟨by have := h.to; omega, by have := h.op; omega, by have := h.ta; omega, fun l hl => by have := h.la l hl; omega⟩
theorem run_step {l : Lv} {r : List Lv} {s2 : St} {x : Except Int St} (hop : s.op = l :: r) (hs : stpW O E.L E.n E.d E.b s = .ok s2) (h : ∃ f, runW O E.L E.n E.d E.b f s2 = some x) : ∃ f, runW O E.L E.n E.d E.b f s = some x := by
 obtain ⟨f, hf⟩ := h
 refine ⟨f + 1, ?_⟩
 rw [runW, hop]
 dsimp only
 rw [hs]
 exact hf
theorem run_err {l : Lv} {r : List Lv} {c : Int} (hop : s.op = l :: r) (hs : stpW O E.L E.n E.d E.b s = .error c) : ∃ f, runW O E.L E.n E.d E.b f s = some (.error c) := by
 refine ⟨1, ?_⟩
 rw [runW, hop]
 dsimp only
 rw [hs]
theorem run_end (hop : s.op = []) : ∃ f, runW O E.L E.n E.d E.b f s = some (.ok s) := ⟨0, by rw [runW, hop]⟩
theorem node_any (LW : Low O Tb) (BG : Begs O Tb wb E) (h : Wk w wb E ⟨p, [], [], 0⟩ ov tv) (hf : Fine E) (hp : Okp E p) (ht : Tb w) (h1 : 0 < wb) (hrem : remW E.L 0 <= 1000000) :
  Calls Tryz.prog 25 #[(.pointer (some ⟨wb, 0, none⟩))] w fun en w' => ∃ r, (∃ f, nodW O E.L E.n E.d E.b f p = some r) /\ Post wb E w r en w' := by
 obtain ⟨wkM, wkMo⟩ := wkM_ex
 have wkM_of : ∀ {w : World} {wb : Nat} {E : Env} {s : St} {ov tv : Value}, Wk w wb E s ov tv -> wkM wb E w = mea E.L s := fun h => wkMo _ _ _ _ _ _ h
 have BC := BG w _ ov tv ht h ⟨by simp, by simp, by simp, by simp⟩ hp
 have hwl := h.lt
 have HS : Hid (∀ V en, Post wb E w (begW O E.L E.n E.d E.b ⟨p, [], [], 0⟩) en V -> ∃ c, en = .returned (.int .i64 c) /\ Ndi O w V wb E p c) := fun V en hpo => by
  obtain ⟨hk, hpo⟩ := hpo
  cases hb : begW O E.L E.n E.d E.b ⟨p, [], [], 0⟩ with
  | error c =>
   rw [hb] at hpo
   exact ⟨c, hpo, hk, .inl ⟨begW_ne hb, 0, by unfold nodW; rw [hb]⟩⟩
  | ok s0 =>
   rw [hb] at hpo
   obtain ⟨rfl, ov', tv', hw⟩ := hpo
   exact ⟨0, rfl, hk, .inr ⟨rfl, s0, ov', tv', hw, iv_start hp.okL hb, fun r ⟨f, hf⟩ => ⟨f, by unfold nodW; rw [hb]; exact hf⟩⟩⟩
 generalize begW O E.L E.n E.d E.b ⟨p, [], [], 0⟩ = RR at BC HS
 clear h
 go_enter Tryz.func25, Tryz.ntmps25
 go_wp2_with (first | (go_at_call 40; refine BC.mono ?_; clear BC; rintro en V0 hpo; obtain ⟨c0, rfl, hnd⟩ := HS.out V0 en hpo; have HN0 : Hid _ := hnd; clear hnd hpo HS))
 go_loopw [3] (fun e wr => ∃ c : Int, e = .int .i64 c /\ Hid (Ndi O w wr wb E p c)) (fun e wr => if intOf e = 0 then wkM wb E wr + 1 else 0)
 case atStart => exact ⟨c0, rfl, HN0⟩
 case round =>
  obtain ⟨c, rfl, HI⟩ := hrel
  clear HN0
  obtain ⟨hk, ⟨hc, f, hnf⟩ | ⟨rfl, s, ov1, tv1, hw, hiv, hrun⟩⟩ := HI.out
  ·have e1 : (c == 0) = false := by rw [beq_eq_false_iff_ne]; exact hc
   have HE : Hid (∃ r, (∃ f, nodW O E.L E.n E.d E.b f p = some r) /\ Post wb E w r (.returned (.int .i64 c)) wr) := ⟨.error c, ⟨f, hnf⟩, hk, rfl⟩
   clear HI hk hnf
   go_wp2
   go_ret
   exact HE.out
  ·have hsx : Smx s := hiv.smx (by omega)
   have SZ := size_any hw (by have := hsx.op; omega)
   cases hop : s.op with
   | nil =>
    rw [hop] at SZ
    have HE : Hid (∃ r, (∃ f, nodW O E.L E.n E.d E.b f p = some r) /\ Post wb E w r (.returned (.int .i64 0)) wr) := ⟨.ok s, hrun _ (run_end hop), hk, rfl, ov1, tv1, hw⟩
    simp only [List.length_nil] at SZ
    clear HI hk hrun hw hiv hop hsx
    go_wp2_with (first | (go_at_call 41; refine SZ.mono ?_; clear SZ; rintro en V1 ⟨rfl, rfl⟩))
    go_ret
    exact HE.out
   | cons l r =>
    rw [hop] at SZ
    have hlen : (0 : Int) < (((l :: r).length : Nat) : Int) := by simp
    have hhol := hiv.hol l (by rw [hop]; exact List.mem_cons_self)
    have GA := goAhead_any LW BG hw hsx hf hiv.ok.okp hop hhol.1 (by have := hhol.2.2; omega) (LW.keep ht hk (by omega) h1) h1
    have HM : Hid (wkM wb E wr = mea E.L s) := wkM_of hw
    cases hst : stpW O E.L E.n E.d E.b s with
    | error c =>
     rw [hst] at GA
     have h0 := stpW_ne hst
     have HD : Hid (∀ V, Kee wb wr V -> Ndi O w V wb E p c) := fun V hk2 => ⟨hk.trans hk2, .inl ⟨h0, hrun _ (run_err hop hst)⟩⟩
     generalize (l :: r).length = nn at SZ hlen
     clear HI hk hrun hw hiv hop hsx hst hhol
     go_wp2_with (first | (go_at_call 41; refine SZ.mono ?_; clear SZ; rintro en V1 ⟨rfl, rfl⟩) | (go_at_call 42; refine GA.mono ?_; clear GA; rintro en V2 ⟨hk2, rfl⟩))
     go_roundw
     case rel => exact ⟨c, rfl, HD.out V2 hk2⟩
     case measure => simp [intOf, h0]
    | ok s2 =>
     rw [hst] at GA
     obtain ⟨g1, g2⟩ := stpW_goes hiv hop hst
     have HD : Hid (∀ V ov2 tv2, Kee wb wr V -> Wk V wb E s2 ov2 tv2 -> Ndi O w V wb E p 0 /\ wkM wb E V < wkM wb E wr) := fun V ov2 tv2 hk2 hw2 => ⟨⟨hk.trans hk2, .inr ⟨rfl, s2, ov2, tv2, hw2, g1, fun r hr => hrun r (run_step hop hst hr)⟩⟩, by rw [wkM_of hw2, HM.out]; exact g2⟩
     generalize (l :: r).length = nn at SZ hlen
     clear HI hk hrun hw hiv hop hsx hst hhol g1 g2
     go_wp2_with (first | (go_at_call 41; refine SZ.mono ?_; clear SZ; rintro en V1 ⟨rfl, rfl⟩) | (go_at_call 42; refine GA.mono ?_; clear GA; rintro en V2 ⟨hk2, rfl, ov2, tv2, hw2⟩; have hd2 := HD.out V2 ov2 tv2 hk2 hw2; have HDD : Hid _ := hd2; clear hd2))
     go_roundw
     case rel => exact ⟨0, rfl, HDD.out.1⟩
     case measure =>
      have := HDD.out.2
      simp [intOf]
      omega
end
end Go.Proofs.YtipbhdhiklmieaaGreatDoor
