/- The walk: valueSign, entryEnds. -/
import Derived.Test.YtipbhdhiklmieaaGreatDoorZAG
set_option linter.all false
set_option maxRecDepth 100000
set_option maxHeartbeats 2000000
namespace Go.Proofs.YtipbhdhiklmieaaGreatDoor
open Go.RowKit Go.Shelf
attribute [local go_sem] Oper.semAt_some
theorem Sq.of {W V : World} (h : Below W.heap.size W V) : Sq W V := fun k hk => h.block k hk
theorem valueSign_any {w : World} {wb : Nat} {E : Env} {s : St} {ov tv : Value} {p : Pl} {O : Orc} (LO : LowC O) (h : Wk w wb E s ov tv) (hf : Fine E) (hp : Okp E p) :
  Calls Tryz.prog 122 #[(.pointer (some ⟨wb, 0, none⟩)), p.v] w fun en w' => en = .returned (.bool (sgnW O E.L s p)) /\ Below w.heap.size w w' := by
 refine (callsIn_wide (n := 9)).1 ?_
 have kA := below_alloc w (.cells #[.int .i64 (p.i : Nat), .int .i64 (p.k : Nat)] 60)
 have h1 := h.on kA
 have bx := Bx.new w (p.i : Nat) (p.k : Nat)
 have x0 : (w.alloc (.cells #[.int .i64 (p.i : Nat), .int .i64 (p.k : Nat)] 60)).cell? ⟨w.heap.size, 0, none⟩ = some (.int .i64 (p.i : Nat)) := bx.cell 0
 have x1 : (w.alloc (.cells #[.int .i64 (p.i : Nat), .int .i64 (p.k : Nat)] 60)).cell? ⟨w.heap.size, 1, none⟩ = some (.int .i64 (p.k : Nat)) := bx.cell 1
 have c4 := h1.cell 4
 have c5 := h1.cell 5
 simp at c4 c5
 have AL := fun m => (callsIn_wide (n := m)).2 (alone_any LO h1.drew hf hp 58)
 have S0 : Sq (w.alloc (.cells #[.int .i64 (p.i : Nat), .int .i64 (p.k : Nat)] 60)) (w.alloc (.cells #[.int .i64 (p.i : Nat), .int .i64 (p.k : Nat)] 60)).drew := Sq.drew _
 refine callsIn_of_wp Tryz.func122 rfl trivial ?_ rfl
 simp only [Tryz.ntmps122, frm, Nat.reduceAdd, Nat.reduceSub]
 unfold sgnW
 cases hal : aloW O E.L p 58 with
 | true =>
  rw [hal] at AL
  clear bx
  gi_wp2
  refine region_pickN (Sq (w.alloc (.cells #[.int .i64 (p.i : Nat), .int .i64 (p.k : Nat)] 60))) (by kernel_rfl) ?_
  show Any _ _ _ _ _ _ 17 _ ⟨#[_,_,_,_,_,_,_,_,_,_,_,_,_,_,_,_,_,_,_,_,_], []⟩ (w.alloc (.cells #[.int .i64 (p.i : Nat), .int .i64 (p.k : Nat)] 60)).drew
  refine .tp 0 (.pointer (some ⟨wb, 0, none⟩)) S0 ?_
  refine .tl 1 (.agg #[.int .i64 (p.i : Nat), .int .i64 (p.k : Nat)]) rfl (fun w hw => by have a1 := hw.cell x0; have a2 := hw.cell x1; go_simp) S0 ?_
  show Any _ _ _ _ _ _ 15 _ ⟨#[_,_,_,_,_,_,_,_,_,_,_,_,_,_,_,_,_,_,_,_,_], []⟩ _
  have kV10 : Below (w.alloc (.cells #[.int .i64 (p.i : Nat), .int .i64 (p.k : Nat)] 60)).heap.size (w.alloc (.cells #[.int .i64 (p.i : Nat), .int .i64 (p.k : Nat)] 60)) (w.alloc (.cells #[.int .i64 (p.i : Nat), .int .i64 (p.k : Nat)] 60)).drew := (Below.refl _ _).drew
  refine .on 2 rfl rfl fun K hK => ?_
  go_simp
  first | refine tr2 ?_ | refine tr1 ?_
  refine (AL _).mono ?_
  clear AL
  rintro en V1 ⟨rfl, hBV1⟩
  have SV1 : Sq (w.alloc (.cells #[.int .i64 (p.i : Nat), .int .i64 (p.k : Nat)] 60)) V1 := Sq.of (kV10.trans (hBV1.mono kV10.size))
  have kV1 := kV10.trans (hBV1.mono kV10.size)
  refine hK _ _ SV1 ?_
  clear hK K
  show Any _ _ _ _ _ _ 14 _ ⟨#[_,_,_,_,_,_,_,_,_,_,_,_,_,_,_,_,_,_,_,_,_], []⟩ V1
  refine .tp 3 (.bool true) SV1 ?_
  refine .ts 4 SV1 ?_
  refine .ts 5 SV1 ?_
  refine .ts 6 SV1 ?_
  refine .ts 7 SV1 ?_
  refine .ts 8 SV1 ?_
  show Any _ _ _ _ _ _ 8 _ ⟨#[_,_,_,_,_,_,_,_,_,_,_,_,_,_,_,_,_,_,_,_,_], []⟩ _
  refine .ts 9 SV1 ?_
  refine .ts 10 SV1 ?_
  refine .ts 11 SV1 ?_
  refine .ts 12 SV1 ?_
  refine .ts 13 SV1 ?_
  refine .ts 14 SV1 ?_
  show Any _ _ _ _ _ _ 2 _ ⟨#[_,_,_,_,_,_,_,_,_,_,_,_,_,_,_,_,_,_,_,_,_], []⟩ _
  refine .tp 15 (.bool true) SV1 ?_
  refine .tp 16 (.bool true) SV1 ?_
  refine Any.done (by kernel_rfl) ?_
  rename_i Kb hKb
  refine hKb _ _ ?_
  clear hKb
  gi_wp2
  go_ret
  exact ⟨rfl, kA.trans (kV1.mono (by simp))⟩
 | false =>
  rw [hal] at AL
  clear bx
  cases hst : staW E.L p 58 with
  | false =>
   gi_wp2
   refine region_pickN (Sq (w.alloc (.cells #[.int .i64 (p.i : Nat), .int .i64 (p.k : Nat)] 60))) (by kernel_rfl) ?_
   show Any _ _ _ _ _ _ 17 _ ⟨#[_,_,_,_,_,_,_,_,_,_,_,_,_,_,_,_,_,_,_,_,_], []⟩ (w.alloc (.cells #[.int .i64 (p.i : Nat), .int .i64 (p.k : Nat)] 60)).drew
   refine .tp 0 (.pointer (some ⟨wb, 0, none⟩)) S0 ?_
   refine .tl 1 (.agg #[.int .i64 (p.i : Nat), .int .i64 (p.k : Nat)]) rfl (fun w hw => by have a1 := hw.cell x0; have a2 := hw.cell x1; go_simp) S0 ?_
   show Any _ _ _ _ _ _ 15 _ ⟨#[_,_,_,_,_,_,_,_,_,_,_,_,_,_,_,_,_,_,_,_,_], []⟩ _
   have kV10 : Below (w.alloc (.cells #[.int .i64 (p.i : Nat), .int .i64 (p.k : Nat)] 60)).heap.size (w.alloc (.cells #[.int .i64 (p.i : Nat), .int .i64 (p.k : Nat)] 60)) (w.alloc (.cells #[.int .i64 (p.i : Nat), .int .i64 (p.k : Nat)] 60)).drew := (Below.refl _ _).drew
   refine .on 2 rfl rfl fun K hK => ?_
   go_simp
   first | refine tr2 ?_ | refine tr1 ?_
   refine (AL _).mono ?_
   clear AL
   rintro en V1 ⟨rfl, hBV1⟩
   have SV1 : Sq (w.alloc (.cells #[.int .i64 (p.i : Nat), .int .i64 (p.k : Nat)] 60)) V1 := Sq.of (kV10.trans (hBV1.mono kV10.size))
   have kV1 := kV10.trans (hBV1.mono kV10.size)
   refine hK _ _ SV1 ?_
   clear hK K
   show Any _ _ _ _ _ _ 14 _ ⟨#[_,_,_,_,_,_,_,_,_,_,_,_,_,_,_,_,_,_,_,_,_], []⟩ V1
   refine .tp 3 (.bool false) SV1 ?_
   refine .tp 4 (.pointer (some ⟨wb, 0, none⟩)) SV1 ?_
   refine .tl 5 (.agg #[.int .i64 (p.i : Nat), .int .i64 (p.k : Nat)]) rfl (fun w hw => by have a1 := hw.cell x0; have a2 := hw.cell x1; go_simp) SV1 ?_
   show Any _ _ _ _ _ _ 11 _ ⟨#[_,_,_,_,_,_,_,_,_,_,_,_,_,_,_,_,_,_,_,_,_], []⟩ _
   have kV20 := kV1
   have SA := fun m => (callsIn_wide (n := m)).2 (stands_any (h1.on kV1) hf hp 58)
   rw [hst] at SA
   refine .on 6 rfl rfl fun K hK => ?_
   go_simp
   first | refine tr2 ?_ | refine tr1 ?_
   refine (SA _).mono ?_
   clear SA
   rintro en V2 ⟨rfl, hBV2⟩
   have SV2 : Sq (w.alloc (.cells #[.int .i64 (p.i : Nat), .int .i64 (p.k : Nat)] 60)) V2 := Sq.of (kV20.trans (hBV2.mono kV20.size))
   have kV2 := kV20.trans (hBV2.mono kV20.size)
   refine hK _ _ SV2 ?_
   clear hK K
   show Any _ _ _ _ _ _ 10 _ ⟨#[_,_,_,_,_,_,_,_,_,_,_,_,_,_,_,_,_,_,_,_,_], []⟩ V2
   refine .tp 7 (.bool false) SV2 ?_
   refine .ts 8 SV2 ?_
   refine .ts 9 SV2 ?_
   refine .ts 10 SV2 ?_
   refine .ts 11 SV2 ?_
   refine .ts 12 SV2 ?_
   show Any _ _ _ _ _ _ 4 _ ⟨#[_,_,_,_,_,_,_,_,_,_,_,_,_,_,_,_,_,_,_,_,_], []⟩ _
   refine .ts 13 SV2 ?_
   refine .tp 14 (.bool false) SV2 ?_
   refine .tp 15 (.bool false) SV2 ?_
   refine .tp 16 (.bool false) SV2 ?_
   refine Any.done (by kernel_rfl) ?_
   rename_i Kb hKb
   refine hKb _ _ ?_
   clear hKb
   gi_wp2
   go_ret
   exact ⟨rfl, kA.trans (kV2.mono (by simp))⟩
  | true =>
   by_cases hsm : p.i = s.p.i /\ p.k = s.p.k
   ·rw [decide_eq_true hsm.1, decide_eq_true hsm.2]
    have e1 : ((p.i : Int) == (s.p.i : Int)) = true := by rw [hsm.1]; simp
    have e2 : ((p.k : Int) == (s.p.k : Int)) = true := by rw [hsm.2]; simp
    have HS : Hid _ := hsm
    clear hsm
    gi_wp2
    refine region_pickN (Sq (w.alloc (.cells #[.int .i64 (p.i : Nat), .int .i64 (p.k : Nat)] 60))) (by kernel_rfl) ?_
    show Any _ _ _ _ _ _ 17 _ ⟨#[_,_,_,_,_,_,_,_,_,_,_,_,_,_,_,_,_,_,_,_,_], []⟩ (w.alloc (.cells #[.int .i64 (p.i : Nat), .int .i64 (p.k : Nat)] 60)).drew
    refine .tp 0 (.pointer (some ⟨wb, 0, none⟩)) S0 ?_
    refine .tl 1 (.agg #[.int .i64 (p.i : Nat), .int .i64 (p.k : Nat)]) rfl (fun w hw => by have a1 := hw.cell x0; have a2 := hw.cell x1; go_simp) S0 ?_
    show Any _ _ _ _ _ _ 15 _ ⟨#[_,_,_,_,_,_,_,_,_,_,_,_,_,_,_,_,_,_,_,_,_], []⟩ _
    have kV10 : Below (w.alloc (.cells #[.int .i64 (p.i : Nat), .int .i64 (p.k : Nat)] 60)).heap.size (w.alloc (.cells #[.int .i64 (p.i : Nat), .int .i64 (p.k : Nat)] 60)) (w.alloc (.cells #[.int .i64 (p.i : Nat), .int .i64 (p.k : Nat)] 60)).drew := (Below.refl _ _).drew
    refine .on 2 rfl rfl fun K hK => ?_
    go_simp
    first | refine tr2 ?_ | refine tr1 ?_
    refine (AL _).mono ?_
    clear AL
    rintro en V1 ⟨rfl, hBV1⟩
    have SV1 : Sq (w.alloc (.cells #[.int .i64 (p.i : Nat), .int .i64 (p.k : Nat)] 60)) V1 := Sq.of (kV10.trans (hBV1.mono kV10.size))
    have kV1 := kV10.trans (hBV1.mono kV10.size)
    refine hK _ _ SV1 ?_
    clear hK K
    show Any _ _ _ _ _ _ 14 _ ⟨#[_,_,_,_,_,_,_,_,_,_,_,_,_,_,_,_,_,_,_,_,_], []⟩ V1
    refine .tp 3 (.bool false) SV1 ?_
    refine .tp 4 (.pointer (some ⟨wb, 0, none⟩)) SV1 ?_
    refine .tl 5 (.agg #[.int .i64 (p.i : Nat), .int .i64 (p.k : Nat)]) rfl (fun w hw => by have a1 := hw.cell x0; have a2 := hw.cell x1; go_simp) SV1 ?_
    show Any _ _ _ _ _ _ 11 _ ⟨#[_,_,_,_,_,_,_,_,_,_,_,_,_,_,_,_,_,_,_,_,_], []⟩ _
    have kV20 := kV1
    have SA := fun m => (callsIn_wide (n := m)).2 (stands_any (h1.on kV1) hf hp 58)
    rw [hst] at SA
    refine .on 6 rfl rfl fun K hK => ?_
    go_simp
    first | refine tr2 ?_ | refine tr1 ?_
    refine (SA _).mono ?_
    clear SA
    rintro en V2 ⟨rfl, hBV2⟩
    have SV2 : Sq (w.alloc (.cells #[.int .i64 (p.i : Nat), .int .i64 (p.k : Nat)] 60)) V2 := Sq.of (kV20.trans (hBV2.mono kV20.size))
    have kV2 := kV20.trans (hBV2.mono kV20.size)
    refine hK _ _ SV2 ?_
    clear hK K
    show Any _ _ _ _ _ _ 10 _ ⟨#[_,_,_,_,_,_,_,_,_,_,_,_,_,_,_,_,_,_,_,_,_], []⟩ V2
    refine .tp 7 (.bool true) SV2 ?_
    refine .tl 8 (.agg #[.int .i64 (p.i : Nat), .int .i64 (p.k : Nat)]) rfl (fun w hw => by have a1 := hw.cell x0; have a2 := hw.cell x1; go_simp) SV2 ?_
    refine .tp 9 (.pointer (some ⟨wb, 0, none⟩)) SV2 ?_
    refine .tp 10 (.pointer (some ⟨wb, 0, none⟩)) SV2 ?_
    refine .tp 11 (.pointer (some ⟨wb, 4, none⟩)) SV2 ?_
    refine .tl 12 (.agg #[.int .i64 (s.p.i : Nat), .int .i64 (s.p.k : Nat)]) rfl (fun w hw => by have a1 := hw.cell c4; have a2 := hw.cell c5; go_simp) SV2 ?_
    show Any _ _ _ _ _ _ 4 _ ⟨#[_,_,_,_,_,_,_,_,_,_,_,_,_,_,_,_,_,_,_,_,_], []⟩ _
    refine .tp 13 (.bool true) SV2 ?_
    refine .tp 14 (.bool true) SV2 ?_
    refine .tp 15 (.bool true) SV2 ?_
    refine .tp 16 (.bool true) SV2 ?_
    refine Any.done (by kernel_rfl) ?_
    rename_i Kb hKb
    refine hKb _ _ ?_
    clear hKb
    gi_wp2
    go_ret
    exact ⟨rfl, kA.trans (kV2.mono (by simp))⟩
   ·have hsf : (decide (p.i = s.p.i) && decide (p.k = s.p.k)) = false := by
     rw [Bool.and_eq_false_iff]
     by_cases h9 : p.i = s.p.i
     ·exact .inr (decide_eq_false (fun h => hsm ⟨h9, h⟩))
     ·exact .inl (decide_eq_false h9)
    rw [hsf]
    have HS : Hid (¬ (p.i = s.p.i /\ p.k = s.p.k)) := hsm
    clear hsm hsf
    gi_wp2
    refine region_pickN (Sq (w.alloc (.cells #[.int .i64 (p.i : Nat), .int .i64 (p.k : Nat)] 60))) (by kernel_rfl) ?_
    show Any _ _ _ _ _ _ 17 _ ⟨#[_,_,_,_,_,_,_,_,_,_,_,_,_,_,_,_,_,_,_,_,_], []⟩ (w.alloc (.cells #[.int .i64 (p.i : Nat), .int .i64 (p.k : Nat)] 60)).drew
    refine .tp 0 (.pointer (some ⟨wb, 0, none⟩)) S0 ?_
    refine .tl 1 (.agg #[.int .i64 (p.i : Nat), .int .i64 (p.k : Nat)]) rfl (fun w hw => by have a1 := hw.cell x0; have a2 := hw.cell x1; go_simp) S0 ?_
    show Any _ _ _ _ _ _ 15 _ ⟨#[_,_,_,_,_,_,_,_,_,_,_,_,_,_,_,_,_,_,_,_,_], []⟩ _
    have kV10 : Below (w.alloc (.cells #[.int .i64 (p.i : Nat), .int .i64 (p.k : Nat)] 60)).heap.size (w.alloc (.cells #[.int .i64 (p.i : Nat), .int .i64 (p.k : Nat)] 60)) (w.alloc (.cells #[.int .i64 (p.i : Nat), .int .i64 (p.k : Nat)] 60)).drew := (Below.refl _ _).drew
    refine .on 2 rfl rfl fun K hK => ?_
    go_simp
    first | refine tr2 ?_ | refine tr1 ?_
    refine (AL _).mono ?_
    clear AL
    rintro en V1 ⟨rfl, hBV1⟩
    have SV1 : Sq (w.alloc (.cells #[.int .i64 (p.i : Nat), .int .i64 (p.k : Nat)] 60)) V1 := Sq.of (kV10.trans (hBV1.mono kV10.size))
    have kV1 := kV10.trans (hBV1.mono kV10.size)
    refine hK _ _ SV1 ?_
    clear hK K
    show Any _ _ _ _ _ _ 14 _ ⟨#[_,_,_,_,_,_,_,_,_,_,_,_,_,_,_,_,_,_,_,_,_], []⟩ V1
    refine .tp 3 (.bool false) SV1 ?_
    refine .tp 4 (.pointer (some ⟨wb, 0, none⟩)) SV1 ?_
    refine .tl 5 (.agg #[.int .i64 (p.i : Nat), .int .i64 (p.k : Nat)]) rfl (fun w hw => by have a1 := hw.cell x0; have a2 := hw.cell x1; go_simp) SV1 ?_
    show Any _ _ _ _ _ _ 11 _ ⟨#[_,_,_,_,_,_,_,_,_,_,_,_,_,_,_,_,_,_,_,_,_], []⟩ _
    have kV20 := kV1
    have SA := fun m => (callsIn_wide (n := m)).2 (stands_any (h1.on kV1) hf hp 58)
    rw [hst] at SA
    refine .on 6 rfl rfl fun K hK => ?_
    go_simp
    first | refine tr2 ?_ | refine tr1 ?_
    refine (SA _).mono ?_
    clear SA
    rintro en V2 ⟨rfl, hBV2⟩
    have SV2 : Sq (w.alloc (.cells #[.int .i64 (p.i : Nat), .int .i64 (p.k : Nat)] 60)) V2 := Sq.of (kV20.trans (hBV2.mono kV20.size))
    have kV2 := kV20.trans (hBV2.mono kV20.size)
    refine hK _ _ SV2 ?_
    clear hK K
    show Any _ _ _ _ _ _ 10 _ ⟨#[_,_,_,_,_,_,_,_,_,_,_,_,_,_,_,_,_,_,_,_,_], []⟩ V2
    refine .tp 7 (.bool true) SV2 ?_
    refine .tl 8 (.agg #[.int .i64 (p.i : Nat), .int .i64 (p.k : Nat)]) rfl (fun w hw => by have a1 := hw.cell x0; have a2 := hw.cell x1; go_simp) SV2 ?_
    refine .tp 9 (.pointer (some ⟨wb, 0, none⟩)) SV2 ?_
    refine .tp 10 (.pointer (some ⟨wb, 0, none⟩)) SV2 ?_
    refine .tp 11 (.pointer (some ⟨wb, 4, none⟩)) SV2 ?_
    refine .tl 12 (.agg #[.int .i64 (s.p.i : Nat), .int .i64 (s.p.k : Nat)]) rfl (fun w hw => by have a1 := hw.cell c4; have a2 := hw.cell c5; go_simp) SV2 ?_
    show Any _ _ _ _ _ _ 4 _ ⟨#[_,_,_,_,_,_,_,_,_,_,_,_,_,_,_,_,_,_,_,_,_], []⟩ _
    refine .tl 13 (.bool false) rfl (fun w _ => by (go_simp; intro h1 h2; exact HS.out ⟨by omega, by omega⟩)) SV2 ?_
    refine .tp 14 (.bool false) SV2 ?_
    refine .tp 15 (.bool false) SV2 ?_
    refine .tp 16 (.bool false) SV2 ?_
    refine Any.done (by kernel_rfl) ?_
    rename_i Kb hKb
    refine hKb _ _ ?_
    clear hKb
    gi_wp2
    go_ret
    exact ⟨rfl, kA.trans (kV2.mono (by simp))⟩
theorem entryEnds_any {w : World} {wb : Nat} {E : Env} {s : St} {ov tv : Value} {l : Lv} {r : List Lv} (h : Wk w wb E s ov tv) (hs : Sml s) (hf : Fine E) (hp : Okp E s.p) (hop : s.op = l :: r) :
  Calls Tryz.prog 124 #[(.pointer (some ⟨wb, 0, none⟩))] w fun en w' => en = .returned (.bool (entEnds E.L s l.cl)) /\ Below w.heap.size w w' := by
 refine (callsIn_wide (n := 9)).1 ?_
 have c4 := h.cell 4
 have c5 := h.cell 5
 simp at c4 c5
 have SA := fun m => (callsIn_wide (n := m)).2 (stands_any h.drew hf hp 44)
 have S0 : Sq w w.drew := Sq.drew _
 obtain ⟨g, cap, rfl, b1, b2, b3, b4, b5, b6, cur, b7⟩ := h.top hop
 have cl0 := b5 0
 simp [Lv.c] at cl0
 have hrl := hs.rl hop
 have TPF : ∀ V1 : World, Below w.heap.size w V1 -> Calls Tryz.prog 73 #[(.pointer (some ⟨wb, 6, none⟩))] V1 fun en w' => en = .returned (.pointer (some ⟨g, r.length * 7, none⟩)) /\ Below V1.heap.size V1 w' := fun V1 hB => top_any (l := l) (h.on hB) hrl
 have hrn : (r.length : Int) <= 1073741824 := by omega
 clear b1 b2 b3 b4 b5 b6 b7
 refine callsIn_of_wp Tryz.func124 rfl trivial ?_ rfl
 simp only [Tryz.ntmps124, frm, Nat.reduceAdd, Nat.reduceSub]
 unfold entEnds
 cases hcm : staW E.L s.p 44 with
 | true =>
  rw [hcm] at SA
  gi_wp2
  refine region_pickN (Sq w) (by kernel_rfl) ?_
  show Any _ _ _ _ _ _ 22 _ ⟨#[_,_,_,_,_,_,_,_,_,_,_,_,_,_,_,_,_,_,_,_,_,_,_,_], []⟩ w.drew
  refine .tp 0 (.pointer (some ⟨wb, 0, none⟩)) S0 ?_
  refine .tp 1 (.pointer (some ⟨wb, 0, none⟩)) S0 ?_
  refine .tp 2 (.pointer (some ⟨wb, 0, none⟩)) S0 ?_
  refine .tp 3 (.pointer (some ⟨wb, 4, none⟩)) S0 ?_
  refine .tl 4 (.agg #[.int .i64 (s.p.i : Nat), .int .i64 (s.p.k : Nat)]) rfl (fun w hw => by have a1 := hw.cell c4; have a2 := hw.cell c5; go_simp) S0 ?_
  show Any _ _ _ _ _ _ 17 _ ⟨#[_,_,_,_,_,_,_,_,_,_,_,_,_,_,_,_,_,_,_,_,_,_,_,_], []⟩ _
  have kV10 : Below w.heap.size w w.drew := (Below.refl _ _).drew
  refine .on 5 rfl rfl fun K hK => ?_
  go_simp
  first | refine tr2 ?_ | refine tr1 ?_
  refine (SA _).mono ?_
  clear SA
  rintro en V1 ⟨rfl, hBV1⟩
  have SV1 : Sq w V1 := Sq.of (kV10.trans (hBV1.mono kV10.size))
  have kV1 := kV10.trans (hBV1.mono kV10.size)
  refine hK _ _ SV1 ?_
  clear hK K
  show Any _ _ _ _ _ _ 16 _ ⟨#[_,_,_,_,_,_,_,_,_,_,_,_,_,_,_,_,_,_,_,_,_,_,_,_], []⟩ V1
  refine .tp 6 (.bool true) SV1 ?_
  refine .ts 7 SV1 ?_
  refine .ts 8 SV1 ?_
  refine .ts 9 SV1 ?_
  refine .ts 10 SV1 ?_
  refine .ts 11 SV1 ?_
  show Any _ _ _ _ _ _ 10 _ ⟨#[_,_,_,_,_,_,_,_,_,_,_,_,_,_,_,_,_,_,_,_,_,_,_,_], []⟩ _
  refine .ts 12 SV1 ?_
  refine .ts 13 SV1 ?_
  refine .ts 14 SV1 ?_
  refine .ts 15 SV1 ?_
  refine .ts 16 SV1 ?_
  refine .ts 17 SV1 ?_
  show Any _ _ _ _ _ _ 4 _ ⟨#[_,_,_,_,_,_,_,_,_,_,_,_,_,_,_,_,_,_,_,_,_,_,_,_], []⟩ _
  refine .ts 18 SV1 ?_
  refine .ts 19 SV1 ?_
  refine .tp 20 (.bool true) SV1 ?_
  refine .tp 21 (.bool true) SV1 ?_
  refine Any.done (by kernel_rfl) ?_
  rename_i Kb hKb
  refine hKb _ _ ?_
  clear hKb
  gi_wp2
  go_ret
  exact ⟨rfl, kV1⟩
 | false =>
  rw [hcm] at SA
  cases hcl : staW E.L s.p l.cl with
  | true =>
   gi_wp2
   refine region_pickN (Sq w) (by kernel_rfl) ?_
   show Any _ _ _ _ _ _ 22 _ ⟨#[_,_,_,_,_,_,_,_,_,_,_,_,_,_,_,_,_,_,_,_,_,_,_,_], []⟩ w.drew
   refine .tp 0 (.pointer (some ⟨wb, 0, none⟩)) S0 ?_
   refine .tp 1 (.pointer (some ⟨wb, 0, none⟩)) S0 ?_
   refine .tp 2 (.pointer (some ⟨wb, 0, none⟩)) S0 ?_
   refine .tp 3 (.pointer (some ⟨wb, 4, none⟩)) S0 ?_
   refine .tl 4 (.agg #[.int .i64 (s.p.i : Nat), .int .i64 (s.p.k : Nat)]) rfl (fun w hw => by have a1 := hw.cell c4; have a2 := hw.cell c5; go_simp) S0 ?_
   show Any _ _ _ _ _ _ 17 _ ⟨#[_,_,_,_,_,_,_,_,_,_,_,_,_,_,_,_,_,_,_,_,_,_,_,_], []⟩ _
   have kV10 : Below w.heap.size w w.drew := (Below.refl _ _).drew
   refine .on 5 rfl rfl fun K hK => ?_
   go_simp
   first | refine tr2 ?_ | refine tr1 ?_
   refine (SA _).mono ?_
   clear SA
   rintro en V1 ⟨rfl, hBV1⟩
   have SV1 : Sq w V1 := Sq.of (kV10.trans (hBV1.mono kV10.size))
   have kV1 := kV10.trans (hBV1.mono kV10.size)
   refine hK _ _ SV1 ?_
   clear hK K
   show Any _ _ _ _ _ _ 16 _ ⟨#[_,_,_,_,_,_,_,_,_,_,_,_,_,_,_,_,_,_,_,_,_,_,_,_], []⟩ V1
   refine .tp 6 (.bool false) SV1 ?_
   refine .tp 7 (.pointer (some ⟨wb, 0, none⟩)) SV1 ?_
   refine .tp 8 (.pointer (some ⟨wb, 0, none⟩)) SV1 ?_
   refine .tp 9 (.pointer (some ⟨wb, 0, none⟩)) SV1 ?_
   refine .tp 10 (.pointer (some ⟨wb, 4, none⟩)) SV1 ?_
   refine .tl 11 (.agg #[.int .i64 (s.p.i : Nat), .int .i64 (s.p.k : Nat)]) rfl (fun w hw => by have a1 := hw.cell c4; have a2 := hw.cell c5; go_simp) SV1 ?_
   show Any _ _ _ _ _ _ 10 _ ⟨#[_,_,_,_,_,_,_,_,_,_,_,_,_,_,_,_,_,_,_,_,_,_,_,_], []⟩ _
   refine .tp 12 (.pointer (some ⟨wb, 0, none⟩)) SV1 ?_
   refine .tp 13 (.pointer (some ⟨wb, 0, none⟩)) SV1 ?_
   refine .tp 14 (.pointer (some ⟨wb, 6, none⟩)) SV1 ?_
   show Any _ _ _ _ _ _ 7 _ ⟨#[_,_,_,_,_,_,_,_,_,_,_,_,_,_,_,_,_,_,_,_,_,_,_,_], []⟩ _
   have kV20 := kV1
   have TP := fun m => (callsIn_wide (n := m)).2 (TPF V1 kV1)
   refine .on 15 rfl rfl fun K hK => ?_
   go_simp
   first | refine tr2 ?_ | refine tr1 ?_
   refine (TP _).mono ?_
   clear TP
   rintro en V2 ⟨rfl, hBV2⟩
   have SV2 : Sq w V2 := Sq.of (kV20.trans (hBV2.mono kV20.size))
   have kV2 := kV20.trans (hBV2.mono kV20.size)
   refine hK _ _ SV2 ?_
   clear hK K
   show Any _ _ _ _ _ _ 6 _ ⟨#[_,_,_,_,_,_,_,_,_,_,_,_,_,_,_,_,_,_,_,_,_,_,_,_], []⟩ V2
   refine .tp 16 (.pointer (some ⟨g, r.length * 7, none⟩)) SV2 ?_
   refine .tp 17 (.pointer (some ⟨g, r.length * 7, none⟩)) SV2 ?_
   refine .tl 18 (.int .i64 l.cl) rfl (fun w hw => by have a1 := hw.cell cl0; go_simp) SV2 ?_
   show Any _ _ _ _ _ _ 3 _ ⟨#[_,_,_,_,_,_,_,_,_,_,_,_,_,_,_,_,_,_,_,_,_,_,_,_], []⟩ _
   have kV30 := kV2
   have SB := fun m => (callsIn_wide (n := m)).2 (stands_any (h.on kV2) hf hp l.cl)
   rw [hcl] at SB
   refine .on 19 rfl rfl fun K hK => ?_
   go_simp
   first | refine tr2 ?_ | refine tr1 ?_
   refine (SB _).mono ?_
   clear SB
   rintro en V3 ⟨rfl, hBV3⟩
   have SV3 : Sq w V3 := Sq.of (kV30.trans (hBV3.mono kV30.size))
   have kV3 := kV30.trans (hBV3.mono kV30.size)
   refine hK _ _ SV3 ?_
   clear hK K
   show Any _ _ _ _ _ _ 2 _ ⟨#[_,_,_,_,_,_,_,_,_,_,_,_,_,_,_,_,_,_,_,_,_,_,_,_], []⟩ V3
   refine .tp 20 (.bool true) SV3 ?_
   refine .tp 21 (.bool true) SV3 ?_
   refine Any.done (by kernel_rfl) ?_
   rename_i Kb hKb
   refine hKb _ _ ?_
   clear hKb
   gi_wp2
   go_ret
   exact ⟨rfl, kV3⟩
  | false =>
   gi_wp2
   refine region_pickN (Sq w) (by kernel_rfl) ?_
   show Any _ _ _ _ _ _ 22 _ ⟨#[_,_,_,_,_,_,_,_,_,_,_,_,_,_,_,_,_,_,_,_,_,_,_,_], []⟩ w.drew
   refine .tp 0 (.pointer (some ⟨wb, 0, none⟩)) S0 ?_
   refine .tp 1 (.pointer (some ⟨wb, 0, none⟩)) S0 ?_
   refine .tp 2 (.pointer (some ⟨wb, 0, none⟩)) S0 ?_
   refine .tp 3 (.pointer (some ⟨wb, 4, none⟩)) S0 ?_
   refine .tl 4 (.agg #[.int .i64 (s.p.i : Nat), .int .i64 (s.p.k : Nat)]) rfl (fun w hw => by have a1 := hw.cell c4; have a2 := hw.cell c5; go_simp) S0 ?_
   show Any _ _ _ _ _ _ 17 _ ⟨#[_,_,_,_,_,_,_,_,_,_,_,_,_,_,_,_,_,_,_,_,_,_,_,_], []⟩ _
   have kV10 : Below w.heap.size w w.drew := (Below.refl _ _).drew
   refine .on 5 rfl rfl fun K hK => ?_
   go_simp
   first | refine tr2 ?_ | refine tr1 ?_
   refine (SA _).mono ?_
   clear SA
   rintro en V1 ⟨rfl, hBV1⟩
   have SV1 : Sq w V1 := Sq.of (kV10.trans (hBV1.mono kV10.size))
   have kV1 := kV10.trans (hBV1.mono kV10.size)
   refine hK _ _ SV1 ?_
   clear hK K
   show Any _ _ _ _ _ _ 16 _ ⟨#[_,_,_,_,_,_,_,_,_,_,_,_,_,_,_,_,_,_,_,_,_,_,_,_], []⟩ V1
   refine .tp 6 (.bool false) SV1 ?_
   refine .tp 7 (.pointer (some ⟨wb, 0, none⟩)) SV1 ?_
   refine .tp 8 (.pointer (some ⟨wb, 0, none⟩)) SV1 ?_
   refine .tp 9 (.pointer (some ⟨wb, 0, none⟩)) SV1 ?_
   refine .tp 10 (.pointer (some ⟨wb, 4, none⟩)) SV1 ?_
   refine .tl 11 (.agg #[.int .i64 (s.p.i : Nat), .int .i64 (s.p.k : Nat)]) rfl (fun w hw => by have a1 := hw.cell c4; have a2 := hw.cell c5; go_simp) SV1 ?_
   show Any _ _ _ _ _ _ 10 _ ⟨#[_,_,_,_,_,_,_,_,_,_,_,_,_,_,_,_,_,_,_,_,_,_,_,_], []⟩ _
   refine .tp 12 (.pointer (some ⟨wb, 0, none⟩)) SV1 ?_
   refine .tp 13 (.pointer (some ⟨wb, 0, none⟩)) SV1 ?_
   refine .tp 14 (.pointer (some ⟨wb, 6, none⟩)) SV1 ?_
   show Any _ _ _ _ _ _ 7 _ ⟨#[_,_,_,_,_,_,_,_,_,_,_,_,_,_,_,_,_,_,_,_,_,_,_,_], []⟩ _
   have kV20 := kV1
   have TP := fun m => (callsIn_wide (n := m)).2 (TPF V1 kV1)
   refine .on 15 rfl rfl fun K hK => ?_
   go_simp
   first | refine tr2 ?_ | refine tr1 ?_
   refine (TP _).mono ?_
   clear TP
   rintro en V2 ⟨rfl, hBV2⟩
   have SV2 : Sq w V2 := Sq.of (kV20.trans (hBV2.mono kV20.size))
   have kV2 := kV20.trans (hBV2.mono kV20.size)
   refine hK _ _ SV2 ?_
   clear hK K
   show Any _ _ _ _ _ _ 6 _ ⟨#[_,_,_,_,_,_,_,_,_,_,_,_,_,_,_,_,_,_,_,_,_,_,_,_], []⟩ V2
   refine .tp 16 (.pointer (some ⟨g, r.length * 7, none⟩)) SV2 ?_
   refine .tp 17 (.pointer (some ⟨g, r.length * 7, none⟩)) SV2 ?_
   refine .tl 18 (.int .i64 l.cl) rfl (fun w hw => by have a1 := hw.cell cl0; go_simp) SV2 ?_
   show Any _ _ _ _ _ _ 3 _ ⟨#[_,_,_,_,_,_,_,_,_,_,_,_,_,_,_,_,_,_,_,_,_,_,_,_], []⟩ _
   have kV30 := kV2
   have SB := fun m => (callsIn_wide (n := m)).2 (stands_any (h.on kV2) hf hp l.cl)
   rw [hcl] at SB
   refine .on 19 rfl rfl fun K hK => ?_
   go_simp
   first | refine tr2 ?_ | refine tr1 ?_
   refine (SB _).mono ?_
   clear SB
   rintro en V3 ⟨rfl, hBV3⟩
   have SV3 : Sq w V3 := Sq.of (kV30.trans (hBV3.mono kV30.size))
   have kV3 := kV30.trans (hBV3.mono kV30.size)
   refine hK _ _ SV3 ?_
   clear hK K
   show Any _ _ _ _ _ _ 2 _ ⟨#[_,_,_,_,_,_,_,_,_,_,_,_,_,_,_,_,_,_,_,_,_,_,_,_], []⟩ V3
   refine .tp 20 (.bool false) SV3 ?_
   refine .tp 21 (.bool false) SV3 ?_
   refine Any.done (by kernel_rfl) ?_
   rename_i Kb hKb
   refine hKb _ _ ?_
   clear hKb
   gi_wp2
   go_ret
   exact ⟨rfl, kV3⟩
theorem gon_ok {O : Orc} {E : Env} {n : Int} {p q : Pl} (h : gonW O E.L n p = .ok q) (hp : Okp E p) : 0 < (rst E.L q).length /\ Okp E q := by
 unfold gonW at h
 split at h
 ·cases h
 ·cases h
 ·rename_i q' hn
  cases h
  exact rst_of_next _ _ _ _ hn hp
theorem comma_any {w : World} {wb : Nat} {E : Env} {s : St} {ov tv : Value} {l : Lv} {r : List Lv} {O : Orc} (LO : LowC O) (LL : LowL O) (h : Wk w wb E s ov tv) (hs : Sml s) (hf : Fine E) (hp : Okp E s.p) (hop : s.op = l :: r) :
  Calls Tryz.prog 78 #[(.pointer (some ⟨wb, 0, none⟩))] w fun en w' => Post wb E w (comW O E.L E.n s l) en w' := by
 obtain ⟨g, cap, rfl, -, -, -, -, -, -, -⟩ := h.top hop
 refine (callsIn_wide (n := 9)).1 ?_
 have GO := fun m => (callsIn_wide (n := m)).2 (goOn_any LO LL h hf hp)
 have hrl := hs.rl hop
 have HOP : Hid (s.op = l :: r) := hop
 clear hop
 obtain ⟨R, hR⟩ : ∃ R, comW O E.L E.n s l = R := ⟨_, rfl⟩
 rw [hR]
 have HR : Hid (comW O E.L E.n s l = R) := hR
 clear hR
 refine callsIn_of_wp Tryz.func78 rfl trivial ?_ rfl
 simp only [Tryz.ntmps78, frm, Nat.reduceAdd, Nat.reduceSub]
 cases hg : gonW O E.L E.n s.p with
 | error c =>
  have HG : Hid (gonW O E.L E.n s.p = .error c) := hg
  rw [hg] at GO
  dsimp only at GO
  clear h hs hg
  gi_wp2
  first | refine tr2 ?_ | refine tr1 ?_
  gi_at_call 119
  refine (GO _).mono ?_
  rintro en V1 ⟨hk, rfl, hc0⟩
  have e1 : (c == 0) = false := by rw [beq_eq_false_iff_ne]; exact hc0
  have e2 : (c != 0) = true := by simp [hc0]
  clear GO hc0
  gi_wp2
  go_ret
  rw [show R = .error c by rw [<- HR.out]; unfold comW; rw [HG.out]]
  exact ⟨hk, rfl⟩
 | ok q =>
  have HG : Hid (gonW O E.L E.n s.p = .ok q) := hg
  obtain ⟨hq0, hqo⟩ := gon_ok hg hp
  have hqk := hqo.lek hf
  rw [hg] at GO
  dsimp only at GO
  clear hg
  gi_wp2
  first | refine tr2 ?_ | refine tr1 ?_
  gi_at_call 119
  refine (GO _).mono ?_
  clear GO
  rintro en V1 ⟨hk1, rfl, hw1⟩
  have TP := fun m => (callsIn_wide (n := m)).2 (top_any (l := l) hw1 hrl)
  have FZ : Hid (∀ V : World, Below V1.heap.size V1 V -> Kee wb w V /\ Wk V wb E { s with p := q } (.slice (some ⟨g, 0, none⟩) (r.length + 1) cap) tv) := fun V hB => ⟨hk1.trans (Kee.of hB), hw1.on hB⟩
  have hsq : Sml { s with p := q.plus 1 } := hs.at _
  gi_wp2
  first | refine tr2 ?_ | refine tr1 ?_
  gi_at_call 73
  refine (TP _).mono ?_
  clear TP
  rintro en V2 ⟨rfl, hB2⟩
  have hw2 := hw1.on hB2
  have c4 := hw2.cell 4
  have c5 := hw2.cell 5
  simp at c4 c5
  have SA := fun m => (callsIn_wide (n := m)).2 (stands_any hw2 hf hqo 44)
  cases hcm : staW E.L q 44 with
  | true =>
   have HV : Hid (R = .ok (topS { s with p := q.plus 1 } fun l => { l with nx := 0 })) := by
    show R = _
    rw [<- HR.out]
    unfold comW
    rw [HG.out]
    dsimp only
    rw [if_pos hcm]
   rw [hcm] at SA
   clear hcm
   gi_wp2
   first | refine tr2 ?_ | refine tr1 ?_
   gi_at_call 34
   refine (SA _).mono ?_
   clear SA
   rintro en V3 ⟨rfl, hB3⟩
   obtain ⟨kV, hw3⟩ := FZ.out V3 (hB2.trans (hB3.mono hB2.size))
   have d5 := hw3.cell 5
   have i5 := hw3.frozen 5
   simp at d5
   have hw4 := hw3.setK (q.k + 1)
   have k4 := hw3.kee 5 (.int .i64 ((q.k + 1 : Nat) : Int))
   rw [show ((q.k + 1 : Nat) : Int) = (q.k : Int) + 1 by omega] at hw4 k4
   obtain ⟨g3, cap3, e3, -, -, -, -, t5, t6, -⟩ := hw4.top (l := l) (r := r) HOP.out
   cases e3
   have t2 := t5 2
   simp [Lv.c] at t2
   have t7 := t6 (r.length * 7 + 2)
   obtain ⟨q1, q2⟩ := hw4.setL (l := l) (l' := { l with nx := 0 }) (r := r) (j := 2) (x := .int .u8 0) HOP.out (by decide) rfl
   have HQ : Hid _ := q1
   have HQ2 : Hid _ := ((kV.trans k4).trans q2)
   clear FZ hw2 hw3 hw4 k4 kV q1 q2 h hs hk1 hw1 t5 t6 c4 c5
   gi_wp2
   go_ret
   rw [HV.out]
   refine ⟨HQ2.out, rfl, (.slice (some ⟨g, 0, none⟩) (r.length + 1) cap), tv, ?_⟩
   have he : topS { s with p := q.plus 1 } (fun l => { l with nx := 0 }) = { p := q.plus 1, op := { l with nx := 0 } :: r, to := s.to, ta := s.ta } := by unfold topS; dsimp only; rw [HOP.out]
   rw [he]
   exact HQ.out
  | false =>
   cases hcl : staW E.L q l.cl with
   | true =>
    have HV : Hid (R = .ok (cloS { s with p := q.plus 1 })) := by
     show R = _
     rw [<- HR.out]
     unfold comW
     rw [HG.out]
     dsimp only
     rw [if_neg (by rw [hcm]; simp), if_pos hcl]
    rw [hcm] at SA
    gi_wp2
    first | refine tr2 ?_ | refine tr1 ?_
    gi_at_call 34
    refine (SA _).mono ?_
    clear SA
    rintro en V3 ⟨rfl, hB3⟩
    obtain ⟨kV, hw3⟩ := FZ.out V3 (hB2.trans (hB3.mono hB2.size))
    clear c4 c5
    have c4 := hw3.cell 4
    have c5 := hw3.cell 5
    simp at c4 c5
    obtain ⟨g3, cap3, e3, -, -, -, -, t5, t6, -⟩ := hw3.top (l := l) (r := r) HOP.out
    cases e3
    have cl0 := t5 0
    simp [Lv.c] at cl0
    have SB := fun m => (callsIn_wide (n := m)).2 (stands_any hw3.drew hf hqo l.cl)
    have FC : Hid (∀ V4 : World, Below V3.heap.size V3 V4 -> V4.cell? ⟨wb, 5, none⟩ = some (.int .i64 (q.k : Nat)) /\ V4.frozen? ⟨wb, 5, none⟩ = false /\ Kee wb w (V4.setCell ⟨wb, 5, none⟩ (.int .i64 ((q.k : Int) + 1))) /\ Calls Tryz.prog 77 #[(.pointer (some ⟨wb, 0, none⟩))] (V4.setCell ⟨wb, 5, none⟩ (.int .i64 ((q.k : Int) + 1))) fun en w' => (∃ v, en = .returned v) /\ Kee wb (V4.setCell ⟨wb, 5, none⟩ (.int .i64 ((q.k : Int) + 1))) w' /\ ∃ ov' tv', Wk w' wb E (cloS { s with p := q.plus 1 }) ov' tv') := fun V4 hB => by
     have hw4 := hw3.on hB
     have d5 := hw4.cell 5
     simp at d5
     have hw5 := hw4.setK (q.k + 1)
     have k5 := hw4.kee 5 (.int .i64 ((q.k + 1 : Nat) : Int))
     rw [show ((q.k + 1 : Nat) : Int) = (q.k : Int) + 1 by omega] at hw5 k5
     exact ⟨d5, hw4.frozen 5, (kV.trans (Kee.of hB)).trans k5, close_any hw5 hsq HOP.out⟩
    have kV2 := kV
    clear FZ hw2 hw3 kV h hs hk1 hw1 t5 t6
    rw [hcl] at SB
    clear hcl hcm
    gi_wp2
    refine region_pickN (Sq V3) (by kernel_rfl) ?_
    show Any _ _ _ _ _ _ 11 _ ⟨#[_,_,_,_,_,_,_,_,_,_,_,_,_,_,_,_,_,_,_,_,_,_,_,_,_,_,_,_,_,_,_,_,_,_,_,_,_,_,_,_,_,_,_,_,_,_,_,_,_,_,_,_,_,_,_], []⟩ V3.drew
    refine .tp 0 (.pointer (some ⟨wb, 0, none⟩)) (Sq.drew V3) ?_
    refine .tp 1 (.pointer (some ⟨wb, 0, none⟩)) (Sq.drew V3) ?_
    refine .tp 2 (.pointer (some ⟨wb, 0, none⟩)) (Sq.drew V3) ?_
    refine .tp 3 (.pointer (some ⟨wb, 4, none⟩)) (Sq.drew V3) ?_
    refine .tl 4 (.agg #[.int .i64 (q.i : Nat), .int .i64 (q.k : Nat)]) rfl (fun w hw => by have a1 := hw.cell c4; have a2 := hw.cell c5; go_simp) (Sq.drew V3) ?_
    refine .tp 5 (.pointer (some ⟨g, r.length * 7, none⟩)) (Sq.drew V3) ?_
    show Any _ _ _ _ _ _ 5 _ ⟨#[_,_,_,_,_,_,_,_,_,_,_,_,_,_,_,_,_,_,_,_,_,_,_,_,_,_,_,_,_,_,_,_,_,_,_,_,_,_,_,_,_,_,_,_,_,_,_,_,_,_,_,_,_,_,_], []⟩ _
    refine .tp 6 (.pointer (some ⟨g, r.length * 7, none⟩)) (Sq.drew V3) ?_
    refine .tp 7 (.pointer (some ⟨g, r.length * 7, none⟩)) (Sq.drew V3) ?_
    refine .tl 8 (.int .i64 l.cl) rfl (fun w hw => by have a1 := hw.cell cl0; go_simp) (Sq.drew V3) ?_
    refine .on 9 rfl rfl fun K hK => ?_
    go_simp
    first | refine tr2 ?_ | refine tr1 ?_
    refine (SB _).mono ?_
    clear SB
    rintro en V4 ⟨rfl, hB4⟩
    have B4 := ((Below.refl _ V3).drew).trans (hB4.mono (Nat.le_refl _))
    refine hK _ _ (Sq.of B4) ?_
    clear hK K
    show Any _ _ _ _ _ _ 1 _ ⟨#[_,_,_,_,_,_,_,_,_,_,_,_,_,_,_,_,_,_,_,_,_,_,_,_,_,_,_,_,_,_,_,_,_,_,_,_,_,_,_,_,_,_,_,_,_,_,_,_,_,_,_,_,_,_,_], []⟩ V4
    refine .tp 10 (.bool true) (Sq.of B4) ?_
    refine Any.done (by kernel_rfl) ?_
    rename_i Kb hKb
    refine hKb _ _ ?_
    clear hKb
    obtain ⟨z1, z2, z3, CL⟩ := FC.out V4 B4
    have HZ : Hid _ := z3
    have CL2 := fun m => (callsIn_wide (n := m)).2 CL
    clear FC z3 CL
    gi_wp2
    first | refine tr2 ?_ | refine tr1 ?_
    gi_at_call 77
    refine (CL2 _).mono ?_
    clear CL2
    rintro en V5 ⟨⟨v, rfl⟩, hk5, hw5⟩
    gi_wp2
    go_ret
    rw [HV.out]
    exact ⟨HZ.out.trans hk5, rfl, hw5⟩
   | false =>
    have HV : Hid (R = .error 2) := by
     show R = _
     rw [<- HR.out]
     unfold comW
     rw [HG.out]
     dsimp only
     rw [if_neg (by rw [hcm]; simp), if_neg (by rw [hcl]; simp)]
    rw [hcm] at SA
    gi_wp2
    first | refine tr2 ?_ | refine tr1 ?_
    gi_at_call 34
    refine (SA _).mono ?_
    clear SA
    rintro en V3 ⟨rfl, hB3⟩
    obtain ⟨kV, hw3⟩ := FZ.out V3 (hB2.trans (hB3.mono hB2.size))
    clear c4 c5
    have c4 := hw3.cell 4
    have c5 := hw3.cell 5
    simp at c4 c5
    obtain ⟨g3, cap3, e3, -, -, -, -, t5, t6, -⟩ := hw3.top (l := l) (r := r) HOP.out
    cases e3
    have cl0 := t5 0
    simp [Lv.c] at cl0
    have SB := fun m => (callsIn_wide (n := m)).2 (stands_any hw3.drew hf hqo l.cl)
    have FC : Hid (∀ V4 : World, Below V3.heap.size V3 V4 -> V4.cell? ⟨wb, 5, none⟩ = some (.int .i64 (q.k : Nat)) /\ V4.frozen? ⟨wb, 5, none⟩ = false /\ Kee wb w (V4.setCell ⟨wb, 5, none⟩ (.int .i64 ((q.k : Int) + 1))) /\ Calls Tryz.prog 77 #[(.pointer (some ⟨wb, 0, none⟩))] (V4.setCell ⟨wb, 5, none⟩ (.int .i64 ((q.k : Int) + 1))) fun en w' => (∃ v, en = .returned v) /\ Kee wb (V4.setCell ⟨wb, 5, none⟩ (.int .i64 ((q.k : Int) + 1))) w' /\ ∃ ov' tv', Wk w' wb E (cloS { s with p := q.plus 1 }) ov' tv') := fun V4 hB => by
     have hw4 := hw3.on hB
     have d5 := hw4.cell 5
     simp at d5
     have hw5 := hw4.setK (q.k + 1)
     have k5 := hw4.kee 5 (.int .i64 ((q.k + 1 : Nat) : Int))
     rw [show ((q.k + 1 : Nat) : Int) = (q.k : Int) + 1 by omega] at hw5 k5
     exact ⟨d5, hw4.frozen 5, (kV.trans (Kee.of hB)).trans k5, close_any hw5 hsq HOP.out⟩
    have kV2 := kV
    clear FZ hw2 hw3 kV h hs hk1 hw1 t5 t6
    rw [hcl] at SB
    clear hcl hcm
    gi_wp2
    refine region_pickN (Sq V3) (by kernel_rfl) ?_
    show Any _ _ _ _ _ _ 11 _ ⟨#[_,_,_,_,_,_,_,_,_,_,_,_,_,_,_,_,_,_,_,_,_,_,_,_,_,_,_,_,_,_,_,_,_,_,_,_,_,_,_,_,_,_,_,_,_,_,_,_,_,_,_,_,_,_,_], []⟩ V3.drew
    refine .tp 0 (.pointer (some ⟨wb, 0, none⟩)) (Sq.drew V3) ?_
    refine .tp 1 (.pointer (some ⟨wb, 0, none⟩)) (Sq.drew V3) ?_
    refine .tp 2 (.pointer (some ⟨wb, 0, none⟩)) (Sq.drew V3) ?_
    refine .tp 3 (.pointer (some ⟨wb, 4, none⟩)) (Sq.drew V3) ?_
    refine .tl 4 (.agg #[.int .i64 (q.i : Nat), .int .i64 (q.k : Nat)]) rfl (fun w hw => by have a1 := hw.cell c4; have a2 := hw.cell c5; go_simp) (Sq.drew V3) ?_
    refine .tp 5 (.pointer (some ⟨g, r.length * 7, none⟩)) (Sq.drew V3) ?_
    show Any _ _ _ _ _ _ 5 _ ⟨#[_,_,_,_,_,_,_,_,_,_,_,_,_,_,_,_,_,_,_,_,_,_,_,_,_,_,_,_,_,_,_,_,_,_,_,_,_,_,_,_,_,_,_,_,_,_,_,_,_,_,_,_,_,_,_], []⟩ _
    refine .tp 6 (.pointer (some ⟨g, r.length * 7, none⟩)) (Sq.drew V3) ?_
    refine .tp 7 (.pointer (some ⟨g, r.length * 7, none⟩)) (Sq.drew V3) ?_
    refine .tl 8 (.int .i64 l.cl) rfl (fun w hw => by have a1 := hw.cell cl0; go_simp) (Sq.drew V3) ?_
    refine .on 9 rfl rfl fun K hK => ?_
    go_simp
    first | refine tr2 ?_ | refine tr1 ?_
    refine (SB _).mono ?_
    clear SB
    rintro en V4 ⟨rfl, hB4⟩
    have B4 := ((Below.refl _ V3).drew).trans (hB4.mono (Nat.le_refl _))
    refine hK _ _ (Sq.of B4) ?_
    clear hK K
    show Any _ _ _ _ _ _ 1 _ ⟨#[_,_,_,_,_,_,_,_,_,_,_,_,_,_,_,_,_,_,_,_,_,_,_,_,_,_,_,_,_,_,_,_,_,_,_,_,_,_,_,_,_,_,_,_,_,_,_,_,_,_,_,_,_,_,_], []⟩ V4
    refine .tp 10 (.bool false) (Sq.of B4) ?_
    refine Any.done (by kernel_rfl) ?_
    rename_i Kb hKb
    refine hKb _ _ ?_
    clear hKb FC
    gi_wp2
    go_ret
    rw [HV.out]
    exact ⟨kV2.trans (Kee.of B4), rfl⟩
end Go.Proofs.YtipbhdhiklmieaaGreatDoor
