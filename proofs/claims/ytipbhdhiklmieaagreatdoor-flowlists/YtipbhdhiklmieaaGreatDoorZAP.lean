/- The walk: upTo. -/
import Derived.Test.YtipbhdhiklmieaaGreatDoorZAO
import Derived.Test.YtipbhdhiklmieaaGreatDoorZAN
set_option linter.all false
set_option maxRecDepth 100000
set_option maxHeartbeats 16000000
namespace Go.Proofs.YtipbhdhiklmieaaGreatDoor
open Go.RowKit Go.Shelf
open P8 (Row Mt wpListIn_append_run)
attribute [local go_sem] Oper.semAt_some
abbrev yzap0 (wb : Nat) (ff : Nat) (s : St) : List Obj := [(.cells #[(.pointer (some ⟨wb, 0, none⟩))] 93), (.cells #[(.func (.func ff) #[] #[])] 157), (.cells #[.slice none 0 0] 73), (.cells #[.int .i64 0] 28), (.cells #[.slice none 0 0] 73), (.cells #[(.pointer (some ⟨wb, 0, none⟩))] 93), (.cells #[.int .i64 (s.p.i : Nat), .int .i64 (s.p.k : Nat)] 60)]
theorem upToF_any {ff : Nat} (HC : ∀ (ar : Array Value) (w : World), Sem.run Tryz.prog (callFunc ff ar) w = .ok (.enter ff ar) w) {w : World} {wb : Nat} {E : Env} {s : St} {ov tv : Value} {O : Orc} {en : List Int -> Option Nat} (LO : LowC O) (LL : LowL O) (EN : Ends ff en) (hlt : ∀ t k, en t = some k -> k < t.length) (h : Wk w wb E s ov tv) (hf : Fine E) (hp : Okp E s.p) :
  Calls Tryz.prog 107 #[(.pointer (some ⟨wb, 0, none⟩)), (.func (.func ff) #[] #[])] w fun e w' => UpPost w wb E s ov tv (uptW O E.L E.n en s.p) e w' := by
 obtain ⟨mk, hmk, MK⟩ := LL.mark
 obtain ⟨R, hR⟩ : ∃ R, uptW O E.L E.n en s.p = R := ⟨_, rfl⟩
 rw [hR]
 have HR : Hid (uptF O E.L E.n en (E.M.length - s.p.i) s.p true [] = R) := by rw [<- Env.len]; exact hR
 clear hR
 have hpi : s.p.i < E.M.length := by obtain ⟨x, hx, -⟩ := hp; exact (List.getElem?_eq_some_iff.1 hx).1
 have hml := hf.len
 refine (callsIn_wide (n := 9)).1 ?_
 have PI := fun m => places_in m wb s.p ((((((w.alloc (.cells #[(.pointer (some ⟨wb, 0, none⟩))] 93)).alloc (.cells #[(.func (.func ff) #[] #[])] 157)).alloc (.cells #[.slice none 0 0] 73)).alloc (.cells #[.int .i64 0] 28)).alloc (.cells #[.slice none 0 0] 73)).drew)
 have hsz1 : (((((w.alloc (.cells #[(.pointer (some ⟨wb, 0, none⟩))] 93)).alloc (.cells #[(.func (.func ff) #[] #[])] 157)).alloc (.cells #[.slice none 0 0] 73)).alloc (.cells #[.int .i64 0] 28)).alloc (.cells #[.slice none 0 0] 73)).drew.heap.size = w.heap.size + 1 + 1 + 1 + 1 + 1 := by show (((((w.alloc (.cells #[(.pointer (some ⟨wb, 0, none⟩))] 93)).alloc (.cells #[(.func (.func ff) #[] #[])] 157)).alloc (.cells #[.slice none 0 0] 73)).alloc (.cells #[.int .i64 0] 28)).alloc (.cells #[.slice none 0 0] 73)).heap.size = _; simp
 rw [hsz1] at PI
 have k3 : Below w.heap.size w ((((((((w.alloc (.cells #[(.pointer (some ⟨wb, 0, none⟩))] 93)).alloc (.cells #[(.func (.func ff) #[] #[])] 157)).alloc (.cells #[.slice none 0 0] 73)).alloc (.cells #[.int .i64 0] 28)).alloc (.cells #[.slice none 0 0] 73)).alloc (.cells #[(.pointer (some ⟨wb, 0, none⟩))] 93)).alloc (.cells #[.int .i64 (s.p.i : Nat), .int .i64 (s.p.k : Nat)] 60)).drew) := (alls_below (yzap0 wb ff s) w).drew
 have h3 := h.on k3
 have hs3 : ((((((((w.alloc (.cells #[(.pointer (some ⟨wb, 0, none⟩))] 93)).alloc (.cells #[(.func (.func ff) #[] #[])] 157)).alloc (.cells #[.slice none 0 0] 73)).alloc (.cells #[.int .i64 0] 28)).alloc (.cells #[.slice none 0 0] 73)).alloc (.cells #[(.pointer (some ⟨wb, 0, none⟩))] 93)).alloc (.cells #[.int .i64 (s.p.i : Nat), .int .i64 (s.p.k : Nat)] 60)).drew).heap.size = w.heap.size + 7 := by show (alls w (yzap0 wb ff s)).heap.size = _; rw [alls_size]; rfl
 have x0 : Boxed ((((((((w.alloc (.cells #[(.pointer (some ⟨wb, 0, none⟩))] 93)).alloc (.cells #[(.func (.func ff) #[] #[])] 157)).alloc (.cells #[.slice none 0 0] 73)).alloc (.cells #[.int .i64 0] 28)).alloc (.cells #[.slice none 0 0] 73)).alloc (.cells #[(.pointer (some ⟨wb, 0, none⟩))] 93)).alloc (.cells #[.int .i64 (s.p.i : Nat), .int .i64 (s.p.k : Nat)] 60)).drew) w.heap.size 93 (.pointer (some ⟨wb, 0, none⟩)) := alls_at (yzap0 wb ff s) w 0 _ rfl
 have x1 : Boxed ((((((((w.alloc (.cells #[(.pointer (some ⟨wb, 0, none⟩))] 93)).alloc (.cells #[(.func (.func ff) #[] #[])] 157)).alloc (.cells #[.slice none 0 0] 73)).alloc (.cells #[.int .i64 0] 28)).alloc (.cells #[.slice none 0 0] 73)).alloc (.cells #[(.pointer (some ⟨wb, 0, none⟩))] 93)).alloc (.cells #[.int .i64 (s.p.i : Nat), .int .i64 (s.p.k : Nat)] 60)).drew) (w.heap.size + 1) 157 (.func (.func ff) #[] #[]) := alls_at (yzap0 wb ff s) w 1 _ rfl
 have x2 : Boxed ((((((((w.alloc (.cells #[(.pointer (some ⟨wb, 0, none⟩))] 93)).alloc (.cells #[(.func (.func ff) #[] #[])] 157)).alloc (.cells #[.slice none 0 0] 73)).alloc (.cells #[.int .i64 0] 28)).alloc (.cells #[.slice none 0 0] 73)).alloc (.cells #[(.pointer (some ⟨wb, 0, none⟩))] 93)).alloc (.cells #[.int .i64 (s.p.i : Nat), .int .i64 (s.p.k : Nat)] 60)).drew) (w.heap.size + 1 + 1) 73 (.slice none 0 0) := alls_at (yzap0 wb ff s) w 2 _ rfl
 have x3 : Boxed ((((((((w.alloc (.cells #[(.pointer (some ⟨wb, 0, none⟩))] 93)).alloc (.cells #[(.func (.func ff) #[] #[])] 157)).alloc (.cells #[.slice none 0 0] 73)).alloc (.cells #[.int .i64 0] 28)).alloc (.cells #[.slice none 0 0] 73)).alloc (.cells #[(.pointer (some ⟨wb, 0, none⟩))] 93)).alloc (.cells #[.int .i64 (s.p.i : Nat), .int .i64 (s.p.k : Nat)] 60)).drew) (w.heap.size + 1 + 1 + 1) 28 (.int .i64 0) := alls_at (yzap0 wb ff s) w 3 _ rfl
 have x4 : Boxed ((((((((w.alloc (.cells #[(.pointer (some ⟨wb, 0, none⟩))] 93)).alloc (.cells #[(.func (.func ff) #[] #[])] 157)).alloc (.cells #[.slice none 0 0] 73)).alloc (.cells #[.int .i64 0] 28)).alloc (.cells #[.slice none 0 0] 73)).alloc (.cells #[(.pointer (some ⟨wb, 0, none⟩))] 93)).alloc (.cells #[.int .i64 (s.p.i : Nat), .int .i64 (s.p.k : Nat)] 60)).drew) (w.heap.size + 1 + 1 + 1 + 1) 73 (.slice none 0 0) := alls_at (yzap0 wb ff s) w 4 _ rfl
 have x5 : Boxed ((((((((w.alloc (.cells #[(.pointer (some ⟨wb, 0, none⟩))] 93)).alloc (.cells #[(.func (.func ff) #[] #[])] 157)).alloc (.cells #[.slice none 0 0] 73)).alloc (.cells #[.int .i64 0] 28)).alloc (.cells #[.slice none 0 0] 73)).alloc (.cells #[(.pointer (some ⟨wb, 0, none⟩))] 93)).alloc (.cells #[.int .i64 (s.p.i : Nat), .int .i64 (s.p.k : Nat)] 60)).drew) (w.heap.size + 1 + 1 + 1 + 1 + 1) 93 (.pointer (some ⟨wb, 0, none⟩)) := alls_at (yzap0 wb ff s) w 5 _ rfl
 have x6 : Bx ((((((((w.alloc (.cells #[(.pointer (some ⟨wb, 0, none⟩))] 93)).alloc (.cells #[(.func (.func ff) #[] #[])] 157)).alloc (.cells #[.slice none 0 0] 73)).alloc (.cells #[.int .i64 0] 28)).alloc (.cells #[.slice none 0 0] 73)).alloc (.cells #[(.pointer (some ⟨wb, 0, none⟩))] 93)).alloc (.cells #[.int .i64 (s.p.i : Nat), .int .i64 (s.p.k : Nat)] 60)).drew) (w.heap.size + 1 + 1 + 1 + 1 + 1 + 1) (s.p.i : Nat) (s.p.k : Nat) := alls_at (yzap0 wb ff s) w 6 _ rfl
 have k1 : Below w.heap.size w (((((w.alloc (.cells #[(.pointer (some ⟨wb, 0, none⟩))] 93)).alloc (.cells #[(.func (.func ff) #[] #[])] 157)).alloc (.cells #[.slice none 0 0] 73)).alloc (.cells #[.int .i64 0] 28)).alloc (.cells #[.slice none 0 0] 73)) := alls_below [(.cells #[(.pointer (some ⟨wb, 0, none⟩))] 93), (.cells #[(.func (.func ff) #[] #[])] 157), (.cells #[.slice none 0 0] 73), (.cells #[.int .i64 0] 28), (.cells #[.slice none 0 0] 73)] w
 have z0 : (((((w.alloc (.cells #[(.pointer (some ⟨wb, 0, none⟩))] 93)).alloc (.cells #[(.func (.func ff) #[] #[])] 157)).alloc (.cells #[.slice none 0 0] 73)).alloc (.cells #[.int .i64 0] 28)).alloc (.cells #[.slice none 0 0] 73)).cell? ⟨w.heap.size, 0, none⟩ = some (.pointer (some ⟨wb, 0, none⟩)) := (show Boxed (((((w.alloc (.cells #[(.pointer (some ⟨wb, 0, none⟩))] 93)).alloc (.cells #[(.func (.func ff) #[] #[])] 157)).alloc (.cells #[.slice none 0 0] 73)).alloc (.cells #[.int .i64 0] 28)).alloc (.cells #[.slice none 0 0] 73)) w.heap.size 93 _ from alls_at [(.cells #[(.pointer (some ⟨wb, 0, none⟩))] 93), (.cells #[(.func (.func ff) #[] #[])] 157), (.cells #[.slice none 0 0] 73), (.cells #[.int .i64 0] 28), (.cells #[.slice none 0 0] 73)] w 0 _ rfl).cell
 have hk1 := h.on k1
 have z4 := hk1.cell 4
 have z5 := hk1.cell 5
 simp at z4 z5
 have SQ3 : Sq (((((w.alloc (.cells #[(.pointer (some ⟨wb, 0, none⟩))] 93)).alloc (.cells #[(.func (.func ff) #[] #[])] 157)).alloc (.cells #[.slice none 0 0] 73)).alloc (.cells #[.int .i64 0] 28)).alloc (.cells #[.slice none 0 0] 73)) ((((((((w.alloc (.cells #[(.pointer (some ⟨wb, 0, none⟩))] 93)).alloc (.cells #[(.func (.func ff) #[] #[])] 157)).alloc (.cells #[.slice none 0 0] 73)).alloc (.cells #[.int .i64 0] 28)).alloc (.cells #[.slice none 0 0] 73)).alloc (.cells #[(.pointer (some ⟨wb, 0, none⟩))] 93)).alloc (.cells #[.int .i64 (s.p.i : Nat), .int .i64 (s.p.k : Nat)] 60)).drew) := Sq.of (((Below.refl _ (((((w.alloc (.cells #[(.pointer (some ⟨wb, 0, none⟩))] 93)).alloc (.cells #[(.func (.func ff) #[] #[])] 157)).alloc (.cells #[.slice none 0 0] 73)).alloc (.cells #[.int .i64 0] 28)).alloc (.cells #[.slice none 0 0] 73))).alloc (Nat.le_refl _) _).alloc (by simp) _).drew
 have SQ := places_seq (9 - 1) (w.heap.size + 1 + 1 + 1 + 1 + 1 + 1) (w.heap.size + 1 + 1 + 1 + 1 + 1) wb E.M.length E.c E.q s.p (by omega) hml _ x6 x5.cell (by have := h3.cell 0; simpa using this)
 refine callsIn_of_wp_marks Tryz.func107 rfl trivial ?_ rfl
 simp only [Tryz.ntmps107, frm, Nat.reduceAdd, Nat.reduceSub]
 have hwl := h.lt
 have HH : Hid (Wk w wb E s ov tv) := h
 clear h hk1 k1
 have Hx : Hid (Wk ((((((((w.alloc (.cells #[(.pointer (some ⟨wb, 0, none⟩))] 93)).alloc (.cells #[(.func (.func ff) #[] #[])] 157)).alloc (.cells #[.slice none 0 0] 73)).alloc (.cells #[.int .i64 0] 28)).alloc (.cells #[.slice none 0 0] 73)).alloc (.cells #[(.pointer (some ⟨wb, 0, none⟩))] 93)).alloc (.cells #[.int .i64 (s.p.i : Nat), .int .i64 (s.p.k : Nat)] 60)).drew) wb E s ov tv /\ Below w.heap.size w ((((((((w.alloc (.cells #[(.pointer (some ⟨wb, 0, none⟩))] 93)).alloc (.cells #[(.func (.func ff) #[] #[])] 157)).alloc (.cells #[.slice none 0 0] 73)).alloc (.cells #[.int .i64 0] 28)).alloc (.cells #[.slice none 0 0] 73)).alloc (.cells #[(.pointer (some ⟨wb, 0, none⟩))] 93)).alloc (.cells #[.int .i64 (s.p.i : Nat), .int .i64 (s.p.k : Nat)] 60)).drew) /\ ((((((((w.alloc (.cells #[(.pointer (some ⟨wb, 0, none⟩))] 93)).alloc (.cells #[(.func (.func ff) #[] #[])] 157)).alloc (.cells #[.slice none 0 0] 73)).alloc (.cells #[.int .i64 0] 28)).alloc (.cells #[.slice none 0 0] 73)).alloc (.cells #[(.pointer (some ⟨wb, 0, none⟩))] 93)).alloc (.cells #[.int .i64 (s.p.i : Nat), .int .i64 (s.p.k : Nat)] 60)).drew).heap.size = w.heap.size + 7 /\ Boxed ((((((((w.alloc (.cells #[(.pointer (some ⟨wb, 0, none⟩))] 93)).alloc (.cells #[(.func (.func ff) #[] #[])] 157)).alloc (.cells #[.slice none 0 0] 73)).alloc (.cells #[.int .i64 0] 28)).alloc (.cells #[.slice none 0 0] 73)).alloc (.cells #[(.pointer (some ⟨wb, 0, none⟩))] 93)).alloc (.cells #[.int .i64 (s.p.i : Nat), .int .i64 (s.p.k : Nat)] 60)).drew) w.heap.size 93 (.pointer (some ⟨wb, 0, none⟩)) /\ Boxed ((((((((w.alloc (.cells #[(.pointer (some ⟨wb, 0, none⟩))] 93)).alloc (.cells #[(.func (.func ff) #[] #[])] 157)).alloc (.cells #[.slice none 0 0] 73)).alloc (.cells #[.int .i64 0] 28)).alloc (.cells #[.slice none 0 0] 73)).alloc (.cells #[(.pointer (some ⟨wb, 0, none⟩))] 93)).alloc (.cells #[.int .i64 (s.p.i : Nat), .int .i64 (s.p.k : Nat)] 60)).drew) (w.heap.size + 1) 157 (.func (.func ff) #[] #[]) /\ Boxed ((((((((w.alloc (.cells #[(.pointer (some ⟨wb, 0, none⟩))] 93)).alloc (.cells #[(.func (.func ff) #[] #[])] 157)).alloc (.cells #[.slice none 0 0] 73)).alloc (.cells #[.int .i64 0] 28)).alloc (.cells #[.slice none 0 0] 73)).alloc (.cells #[(.pointer (some ⟨wb, 0, none⟩))] 93)).alloc (.cells #[.int .i64 (s.p.i : Nat), .int .i64 (s.p.k : Nat)] 60)).drew) (w.heap.size + 1 + 1) 73 (.slice none 0 0) /\ Boxed ((((((((w.alloc (.cells #[(.pointer (some ⟨wb, 0, none⟩))] 93)).alloc (.cells #[(.func (.func ff) #[] #[])] 157)).alloc (.cells #[.slice none 0 0] 73)).alloc (.cells #[.int .i64 0] 28)).alloc (.cells #[.slice none 0 0] 73)).alloc (.cells #[(.pointer (some ⟨wb, 0, none⟩))] 93)).alloc (.cells #[.int .i64 (s.p.i : Nat), .int .i64 (s.p.k : Nat)] 60)).drew) (w.heap.size + 1 + 1 + 1) 28 (.int .i64 0) /\ Boxed ((((((((w.alloc (.cells #[(.pointer (some ⟨wb, 0, none⟩))] 93)).alloc (.cells #[(.func (.func ff) #[] #[])] 157)).alloc (.cells #[.slice none 0 0] 73)).alloc (.cells #[.int .i64 0] 28)).alloc (.cells #[.slice none 0 0] 73)).alloc (.cells #[(.pointer (some ⟨wb, 0, none⟩))] 93)).alloc (.cells #[.int .i64 (s.p.i : Nat), .int .i64 (s.p.k : Nat)] 60)).drew) (w.heap.size + 1 + 1 + 1 + 1) 73 (.slice none 0 0)) := ⟨h3, k3, hs3, x0, x1, x2, x3, x4⟩
 have HSQ : Hid _ := SQ
 clear h3 k3 hs3 x0 x1 x2 x3 x4 x5 x6 SQ hsz1
 gi_wp2
 refine region_pickN (Sq (((((w.alloc (.cells #[(.pointer (some ⟨wb, 0, none⟩))] 93)).alloc (.cells #[(.func (.func ff) #[] #[])] 157)).alloc (.cells #[.slice none 0 0] 73)).alloc (.cells #[.int .i64 0] 28)).alloc (.cells #[.slice none 0 0] 73))) (by kernel_rfl) ?_
 show Any _ _ _ _ _ _ 6 _ ⟨#[_,_,_,_,_,_,_,_,_,_,_,_,_,_,_,_,_,_,_,_,_,_,_,_,_,_,_,_,_,_,_,_,_,_,_,_,_,_,_,_,_,_,_,_,_,_,_,_,_,_,_,_,_,_,_,_,_,_,_,_,_,_,_,_,_,_,_,_,_,_,_,_,_,_,_,_,_,_,_,_,_,_,_,_,_,_], []⟩ (((((w.alloc (.cells #[(.pointer (some ⟨wb, 0, none⟩))] 93)).alloc (.cells #[(.func (.func ff) #[] #[])] 157)).alloc (.cells #[.slice none 0 0] 73)).alloc (.cells #[.int .i64 0] 28)).alloc (.cells #[.slice none 0 0] 73)).drew
 refine .tl 0 (.pointer (some ⟨wb, 0, none⟩)) rfl (fun w hw => by have a1 := hw.cell z0; go_simp) (Sq.drew (((((w.alloc (.cells #[(.pointer (some ⟨wb, 0, none⟩))] 93)).alloc (.cells #[(.func (.func ff) #[] #[])] 157)).alloc (.cells #[.slice none 0 0] 73)).alloc (.cells #[.int .i64 0] 28)).alloc (.cells #[.slice none 0 0] 73))) ?_
 refine .tl 1 (.pointer (some ⟨wb, 0, none⟩)) rfl (fun w hw => by have a1 := hw.cell z0; go_simp) (Sq.drew (((((w.alloc (.cells #[(.pointer (some ⟨wb, 0, none⟩))] 93)).alloc (.cells #[(.func (.func ff) #[] #[])] 157)).alloc (.cells #[.slice none 0 0] 73)).alloc (.cells #[.int .i64 0] 28)).alloc (.cells #[.slice none 0 0] 73))) ?_
 refine .tp 2 (.pointer (some ⟨wb, 0, none⟩)) (Sq.drew (((((w.alloc (.cells #[(.pointer (some ⟨wb, 0, none⟩))] 93)).alloc (.cells #[(.func (.func ff) #[] #[])] 157)).alloc (.cells #[.slice none 0 0] 73)).alloc (.cells #[.int .i64 0] 28)).alloc (.cells #[.slice none 0 0] 73))) ?_
 refine .tp 3 (.pointer (some ⟨wb, 4, none⟩)) (Sq.drew (((((w.alloc (.cells #[(.pointer (some ⟨wb, 0, none⟩))] 93)).alloc (.cells #[(.func (.func ff) #[] #[])] 157)).alloc (.cells #[.slice none 0 0] 73)).alloc (.cells #[.int .i64 0] 28)).alloc (.cells #[.slice none 0 0] 73))) ?_
 refine .tl 4 (.agg #[.int .i64 (s.p.i : Nat), .int .i64 (s.p.k : Nat)]) rfl (fun w hw => by have a1 := hw.cell z4; have a2 := hw.cell z5; go_simp) (Sq.drew (((((w.alloc (.cells #[(.pointer (some ⟨wb, 0, none⟩))] 93)).alloc (.cells #[(.func (.func ff) #[] #[])] 157)).alloc (.cells #[.slice none 0 0] 73)).alloc (.cells #[.int .i64 0] 28)).alloc (.cells #[.slice none 0 0] 73))) ?_
 refine .on 5 rfl rfl fun K hK => ?_
 go_simp
 refine ⟨trivial, ?_⟩
 refine (PI _).mono ?_
 clear PI
 rintro e W2 ⟨rfl, rfl⟩
 refine hK _ _ SQ3 ?_
 clear hK K
 show Any _ _ _ _ _ _ 0 _ ⟨#[_,_,_,_,_,_,_,_,_,_,_,_,_,_,_,_,_,_,_,_,_,_,_,_,_,_,_,_,_,_,_,_,_,_,_,_,_,_,_,_,_,_,_,_,_,_,_,_,_,_,_,_,_,_,_,_,_,_,_,_,_,_,_,_,_,_,_,_,_,_,_,_,_,_,_,_,_,_,_,_,_,_,_,_,_,_], []⟩ ((((((((w.alloc (.cells #[(.pointer (some ⟨wb, 0, none⟩))] 93)).alloc (.cells #[(.func (.func ff) #[] #[])] 157)).alloc (.cells #[.slice none 0 0] 73)).alloc (.cells #[.int .i64 0] 28)).alloc (.cells #[.slice none 0 0] 73)).alloc (.cells #[(.pointer (some ⟨wb, 0, none⟩))] 93)).alloc (.cells #[.int .i64 (s.p.i : Nat), .int .i64 (s.p.k : Nat)] 60)).drew)
 refine Any.done (by kernel_rfl) ?_
 rename_i Kb hKb
 refine hKb _ _ ?_
 clear hKb z0 z4 z5 SQ3
 gi_wp2
 generalize (((((((w.alloc (.cells #[(.pointer (some ⟨wb, 0, none⟩))] 93)).alloc (.cells #[(.func (.func ff) #[] #[])] 157)).alloc (.cells #[.slice none 0 0] 73)).alloc (.cells #[.int .i64 0] 28)).alloc (.cells #[.slice none 0 0] 73)).alloc (.cells #[(.pointer (some ⟨wb, 0, none⟩))] 93)).alloc (.cells #[.int .i64 (s.p.i : Nat), .int .i64 (s.p.k : Nat)] 60)).drew = W3 at Hx HSQ |-
 obtain ⟨h3, k3, hs3, x0, x1, x2, x3, x4⟩ := Hx.out
 clear Hx
 have h := HH.out
 clear HH
 refine wpIn_rangeFuncO (gf := 170) (lb := #[(.pointer (some ⟨w.heap.size + 1 + 1 + 1 + 1 + 1 + 1, 0, none⟩)), (.pointer (some ⟨w.heap.size + 1 + 1 + 1 + 1 + 1, 0, none⟩))]) rfl (enters_of Tryz.func170 (by kernel_rfl) rfl) HSQ.out (fun b hb => by rcases hb with rfl | rfl | rfl <;> omega) (Below.refl _ _) (fun _ => rfl)
  (fun X i W => ∃ T, Iu w W3 wb (w.heap.size + 1 + 1 + 1 + 1) T X W /\ (i <= E.M.length - s.p.i /\ uptF O E.L E.n en (E.M.length - s.p.i - i) (pAt s.p i) (decide (i = 0)) T = R) /\ T.length = i) (fun c _ W => UpX w W3 wb E s ov tv (w.heap.size + 1 + 1) (w.heap.size + 1 + 1 + 1) R c W) (Iu.aboR (J := fun i T => (i <= E.M.length - s.p.i /\ uptF O E.L E.n en (E.M.length - s.p.i - i) (pAt s.p i) (decide (i = 0)) T = R) /\ T.length = i) (by omega) (by omega)) (fun c => UpX.own c h (by omega) (by omega) (by omega)) ⟨[], ⟨Nat.le_refl _, k3, fun _ _ _ _ => rfl, fun _ h => h.elim, .slice none 0 0, [], x4, World.ownsRow_nil _ _ _ _, fun g e => (by cases e), rfl, fun r hr => by cases hr⟩, ⟨Nat.zero_le _, HR.out⟩, rfl⟩
  (fun x W => W.alloc (.cells #[.int .i64 (x.i : Nat), .int .i64 (x.k : Nat)] 60)) (fun x W => World.grownBy_alloc W _ none)
  (fun x b => { tmps := #[(.pointer (some ⟨wb, 0, none⟩)), (.func (.func ff) #[] #[]), (.pointer (some ⟨w.heap.size, 0, none⟩)), (.pointer (some ⟨w.heap.size + 1, 0, none⟩)), (.pointer (some ⟨w.heap.size + 1 + 1, 0, none⟩)), (.pointer (some ⟨w.heap.size + 1 + 1 + 1, 0, none⟩)), (.pointer (some ⟨w.heap.size + 1 + 1 + 1 + 1, 0, none⟩)), (.pointer (some ⟨b, 0, none⟩)), undef, undef, undef, undef, undef, (.pointer (some ⟨wb, 0, none⟩)), (.pointer (some ⟨wb, 0, none⟩)), (.pointer (some ⟨wb, 0, none⟩)), (.pointer (some ⟨wb, 4, none⟩)), (.agg #[.int .i64 (s.p.i : Nat), .int .i64 (s.p.k : Nat)]), (.func (.func 170) #[] #[(.pointer (some ⟨w.heap.size + 1 + 1 + 1 + 1 + 1 + 1, 0, none⟩)), (.pointer (some ⟨w.heap.size + 1 + 1 + 1 + 1 + 1, 0, none⟩))]), (.agg #[.int .i64 (x.i : Nat), .int .i64 (x.k : Nat)]), undef, undef, undef, undef, undef, undef, undef, undef, undef, undef, undef, undef, undef, undef, undef, undef, undef, undef, undef, undef, undef, undef, undef, undef, undef, undef, undef, undef, undef, undef, undef, undef, undef, undef, undef, undef, undef, undef, undef, undef, undef, undef, undef, undef, undef, undef, undef, undef, undef, undef, undef, undef, undef, undef, undef, undef, undef, undef, undef, undef, undef, undef, undef, undef, undef, undef], defers := [] }) ?assign ?body ?done ?stop
 case assign =>
  intro m l x W K hK
  simp only [encP, Pl.v] at hK |-
  gi_wp2
  exact hK
 case body =>
  intro m l X i x W0 W hx hI hl1 hl2 hoth hX hsz
  obtain ⟨TT, hiu, ⟨hiN0, hru⟩, hTT⟩ := hI
  obtain ⟨hiN, hxe⟩ := plsL_of hx
  obtain ⟨ln, hln⟩ : ∃ ln, E.M[s.p.i + i]? = some ln := ⟨_, List.getElem?_eq_getElem hiN⟩
  have hxi : x.i = s.p.i + i := by rw [hxe, pAt_i]
  have hsz2 : W.heap.size = W0.heap.size + 1 := by rw [hsz]; simp
  have hWs := hiu.sz
  have hW0 : W3.heap.size <= W0.heap.size := by omega
  have hW0s : W0.heap.size < W.heap.size := by omega
  have HBX : Hid (Bx W W0.heap.size (x.i : Nat) (x.k : Nat)) := by
   show W.heap[W0.heap.size]? = _
   rw [hoth _ (by omega)]
   exact World.alloc_heap_new W0 _
  have HOX : Hid (∀ b, X b -> W3.heap.size <= b /\ b < W.heap.size) := fun b hb => hiu.own b hb
  have HIU : Hid (Iu w W3 wb (w.heap.size + 1 + 1 + 1 + 1) TT X W) := hiu
  have HTL : Hid (TT.length = i) := hTT
  have HIN : Hid (s.p.i + i < E.M.length) := hiN
  have hW := h.on hiu.bel
  have y0 : W.cell? ⟨w.heap.size, 0, none⟩ = some (.pointer (some ⟨wb, 0, none⟩)) := (show Boxed W w.heap.size 93 _ from (hiu.box _ (by omega) (by omega) (by omega)).trans x0).cell
  have c0 := hW.cell 0
  have p4 := hW.cell 4
  have q0 := HBX.out.cell 0
  have q1 := HBX.out.cell 1
  simp at c0 p4 q0 q1
  obtain ⟨bl, ol, hq, hcl⟩ := hW.lin.1.at (by omega)
  rw [hq] at c0
  obtain ⟨d0, d1⟩ := hcl (s.p.i + i) ln hln
  rw [<- hxi] at d0 d1
  have e1 : (x.i : Int) < (E.M.length : Int) := by omega
  have hml2 : (E.M.length : Int) <= 1048576 := by omega
  have S0 : Sq W W.drew := Sq.drew W
  have HX : Hid (x = pAt s.p i /\ x.i = s.p.i + i) := ⟨hxe, hxi⟩
  have hxk : Okp E x := by rw [hxe]; exact hp.at hiN
  have HST : Hid (R = if decide (i = 0) = false /\ O.marker ln.lp = true then .error 2 else if decide (i = 0) = false /\ O.empty ln.lp = false /\ ln.n <= E.n then .error 7 else match en (rst E.L (pAt s.p i)) with | some m => .ok (TT ++ [(rst E.L (pAt s.p i)).take m], (pAt s.p i).plus (m + 1)) | none => uptF O E.L E.n en (E.M.length - s.p.i - (i + 1)) (pAt s.p (i + 1)) false (TT ++ [rst E.L (pAt s.p i)])) := by
   show R = _
   rw [<- hru, uptF_step hiN hln]
   rfl
  clear HSQ hxe hx hW hcl hxi hiu hTT hru hiN hoth hsz hsz2
  by_cases hi0 : i = 0
  ·have E2 : Hid (((x.i : Int) == (s.p.i : Int)) = true) := by show _ = _; rw [HX.out.2, hi0]; simp
   have E3 : Hid ((x.i : Int) = (s.p.i : Int)) := by show _ = _; rw [HX.out.2, hi0]; rfl
   have HGO : Hid (R = match en (rst E.L (pAt s.p i)) with | some m => .ok (TT ++ [(rst E.L (pAt s.p i)).take m], (pAt s.p i).plus (m + 1)) | none => uptF O E.L E.n en (E.M.length - s.p.i - (i + 1)) (pAt s.p (i + 1)) false (TT ++ [rst E.L (pAt s.p i)])) := by
    show R = _
    rw [HST.out, if_neg (by rw [hi0]; simp), if_neg (by rw [hi0]; simp)]
   clear hi0
   gi_wp2
   refine region_pickN (Sq W) (by kernel_rfl) ?_
   show Any _ _ _ _ _ _ 19 _ ⟨#[_,_,_,_,_,_,_,_,_,_,_,_,_,_,_,_,_,_,_,_,_,_,_,_,_,_,_,_,_,_,_,_,_,_,_,_,_,_,_,_,_,_,_,_,_,_,_,_,_,_,_,_,_,_,_,_,_,_,_,_,_,_,_,_,_,_,_,_,_,_,_,_,_,_,_,_,_,_,_,_,_,_,_,_,_,_], []⟩ W.drew
   refine .tl 0 (.pointer (some ⟨wb, 0, none⟩)) rfl (fun w hw => by have a1 := hw.cell y0; go_simp) S0 ?_
   refine .tp 1 (.pointer (some ⟨wb, 0, none⟩)) S0 ?_
   refine .tp 2 (.pointer (some ⟨wb, 0, none⟩)) S0 ?_
   refine .tl 3 (.slice (some ⟨bl, ol, none⟩) E.M.length E.c) rfl (fun w hw => by have a1 := hw.cell c0; go_simp) S0 ?_
   refine .tp 4 (.pointer (some ⟨W0.heap.size, 0, none⟩)) S0 ?_
   refine .tl 5 (.int .i64 (x.i : Nat)) rfl (fun w hw => by have a1 := hw.cell q0; go_simp) S0 ?_
   show Any _ _ _ _ _ _ 13 _ ⟨#[_,_,_,_,_,_,_,_,_,_,_,_,_,_,_,_,_,_,_,_,_,_,_,_,_,_,_,_,_,_,_,_,_,_,_,_,_,_,_,_,_,_,_,_,_,_,_,_,_,_,_,_,_,_,_,_,_,_,_,_,_,_,_,_,_,_,_,_,_,_,_,_,_,_,_,_,_,_,_,_,_,_,_,_,_,_], []⟩ _
   refine .tp 6 (.pointer (some ⟨bl, ol + x.i * 2, none⟩)) S0 ?_
   refine .tl 7 (.agg #[.int .i64 ln.n, .slice ln.q ln.t.length ln.c]) rfl (fun w hw => by have a1 := hw.cell d0; have a2 := hw.cell d1; go_simp) S0 ?_
   refine .tp 8 (.pointer (some ⟨W0.heap.size, 0, none⟩)) S0 ?_
   refine .tl 9 (.int .i64 (x.i : Nat)) rfl (fun w hw => by have a1 := hw.cell q0; go_simp) S0 ?_
   refine .tl 10 (.pointer (some ⟨wb, 0, none⟩)) rfl (fun w hw => by have a1 := hw.cell y0; go_simp) S0 ?_
   refine .tp 11 (.pointer (some ⟨wb, 0, none⟩)) S0 ?_
   show Any _ _ _ _ _ _ 7 _ ⟨#[_,_,_,_,_,_,_,_,_,_,_,_,_,_,_,_,_,_,_,_,_,_,_,_,_,_,_,_,_,_,_,_,_,_,_,_,_,_,_,_,_,_,_,_,_,_,_,_,_,_,_,_,_,_,_,_,_,_,_,_,_,_,_,_,_,_,_,_,_,_,_,_,_,_,_,_,_,_,_,_,_,_,_,_,_,_], []⟩ _
   refine .tp 12 (.pointer (some ⟨wb, 4, none⟩)) S0 ?_
   refine .tp 13 (.pointer (some ⟨wb, 4, none⟩)) S0 ?_
   refine .tl 14 (.int .i64 (s.p.i : Nat)) rfl (fun w hw => by have a1 := hw.cell p4; go_simp) S0 ?_
   refine .tl 15 (.bool true) rfl (fun w _ => by have e2 := E2.out; have e3 := E3.out; go_simp) S0 ?_
   refine .on 16 rfl rfl fun K hK => ?_
   go_simp
   refine hK _ _ (S0.alloc (Nat.le_refl _) _) ?_
   clear hK K
   show Any _ _ _ _ _ _ 2 _ ⟨#[_,_,_,_,_,_,_,_,_,_,_,_,_,_,_,_,_,_,_,_,_,_,_,_,_,_,_,_,_,_,_,_,_,_,_,_,_,_,_,_,_,_,_,_,_,_,_,_,_,_,_,_,_,_,_,_,_,_,_,_,_,_,_,_,_,_,_,_,_,_,_,_,_,_,_,_,_,_,_,_,_,_,_,_,_,_], []⟩ (W.drew.alloc (.cells #[.int .i64 0, .slice none 0 0] 44))
   refine .on 17 rfl rfl fun K hK => ?_
   go_simp
   refine hK _ _ (fun k hk => Below.heap_alloc W _ k hk) ?_
   clear hK K
   show Any _ _ _ _ _ _ 1 _ ⟨#[_,_,_,_,_,_,_,_,_,_,_,_,_,_,_,_,_,_,_,_,_,_,_,_,_,_,_,_,_,_,_,_,_,_,_,_,_,_,_,_,_,_,_,_,_,_,_,_,_,_,_,_,_,_,_,_,_,_,_,_,_,_,_,_,_,_,_,_,_,_,_,_,_,_,_,_,_,_,_,_,_,_,_,_,_,_], []⟩ (W.alloc (.cells #[.int .i64 ln.n, .slice ln.q ln.t.length ln.c] 44)).drew
   refine .tp 18 (.bool true) (fun k hk => Below.heap_alloc W _ k hk) ?_
   refine Any.done (by kernel_rfl) ?_
   rename_i Kb hKb
   refine hKb _ _ ?_
   clear hKb
   have LK : Below W.heap.size W (W.alloc (.cells #[.int .i64 ln.n, .slice ln.q ln.t.length ln.c] 44)).drew := (below_alloc W _).drew
   have LBl : Bl (W.alloc (.cells #[.int .i64 ln.n, .slice ln.q ln.t.length ln.c] 44)).drew W.heap.size ln := World.alloc_heap_new W _
   generalize (W.alloc (.cells #[.int .i64 ln.n, .slice ln.q ln.t.length ln.c] 44)).drew = WL at LK LBl |-
   have FA : Hid (∀ V : World, Below WL.heap.size WL V -> Below W.heap.size W V /\ Iu w W3 wb (w.heap.size + 1 + 1 + 1 + 1) TT X V /\ Wk V wb E s ov tv /\ Bx V W0.heap.size (x.i : Nat) (x.k : Nat) /\ Bl V W.heap.size ln /\ Boxed V w.heap.size 93 (.pointer (some ⟨wb, 0, none⟩)) /\ Boxed V (w.heap.size + 1) 157 (.func (.func ff) #[] #[]) /\ Boxed V (w.heap.size + 1 + 1) 73 (.slice none 0 0) /\ Boxed V (w.heap.size + 1 + 1 + 1) 28 (.int .i64 0)) := fun V hV => by
    have a1 : Below W.heap.size W V := LK.trans (hV.mono LK.size)
    have a2 : Iu w W3 wb (w.heap.size + 1 + 1 + 1 + 1) TT X V := HIU.out.on (by omega) (by omega) a1
    exact ⟨a1, a2, h.on a2.bel, HBX.out.on a1, LBl.on hV, (a2.box _ (by omega) (by omega) (by omega)).trans x0, (a2.box _ (by omega) (by omega) (by omega)).trans x1, (a2.box _ (by omega) (by omega) (by omega)).trans x2, (a2.box _ (by omega) (by omega) (by omega)).trans x3⟩
   clear y0 c0 q0 q1 d0 d1 S0 p4
   obtain ⟨-, -, a3, -, a5, a6, -⟩ := FA.out WL (Below.refl _ _)
   have y0 := a6.cell
   have l0 := a5.cell 0
   have l1 := a5.cell 1
   have p1 := a3.cell 1
   simp at l0 l1 p1
   clear a5 a6
   clear a3
   gi_wp2
   first | refine tr2 ?_ | refine tr1 ?_
   gi_wp2
   refine region_pickN (Sq WL) (by kernel_rfl) ?_
   show Any _ _ _ _ _ _ 16 _ ⟨#[_,_,_,_,_,_,_,_,_,_,_,_,_,_,_,_,_,_,_,_,_,_,_,_,_,_,_,_,_,_,_,_,_,_,_,_,_,_,_,_,_,_,_,_,_,_,_,_,_,_,_,_,_,_,_,_,_,_,_,_,_,_,_,_,_,_,_,_,_,_,_,_,_,_,_,_,_,_,_,_,_,_,_,_,_,_], []⟩ WL.drew
   refine .tp 0 (.bool true) (Sq.drew WL) ?_
   refine .tp 1 (.bool false) (Sq.drew WL) ?_
   refine .tp 2 (.bool false) (Sq.drew WL) ?_
   refine .ts 3 (Sq.drew WL) ?_
   refine .ts 4 (Sq.drew WL) ?_
   refine .ts 5 (Sq.drew WL) ?_
   show Any _ _ _ _ _ _ 10 _ ⟨#[_,_,_,_,_,_,_,_,_,_,_,_,_,_,_,_,_,_,_,_,_,_,_,_,_,_,_,_,_,_,_,_,_,_,_,_,_,_,_,_,_,_,_,_,_,_,_,_,_,_,_,_,_,_,_,_,_,_,_,_,_,_,_,_,_,_,_,_,_,_,_,_,_,_,_,_,_,_,_,_,_,_,_,_,_,_], []⟩ _
   refine .tp 6 (.bool false) (Sq.drew WL) ?_
   refine .tp 7 (.bool false) (Sq.drew WL) ?_
   refine .ts 8 (Sq.drew WL) ?_
   refine .ts 9 (Sq.drew WL) ?_
   refine .ts 10 (Sq.drew WL) ?_
   refine .ts 11 (Sq.drew WL) ?_
   show Any _ _ _ _ _ _ 4 _ ⟨#[_,_,_,_,_,_,_,_,_,_,_,_,_,_,_,_,_,_,_,_,_,_,_,_,_,_,_,_,_,_,_,_,_,_,_,_,_,_,_,_,_,_,_,_,_,_,_,_,_,_,_,_,_,_,_,_,_,_,_,_,_,_,_,_,_,_,_,_,_,_,_,_,_,_,_,_,_,_,_,_,_,_,_,_,_,_], []⟩ _
   refine .ts 12 (Sq.drew WL) ?_
   refine .ts 13 (Sq.drew WL) ?_
   refine .ts 14 (Sq.drew WL) ?_
   refine .tp 15 (.bool false) (Sq.drew WL) ?_
   refine Any.done (by kernel_rfl) ?_
   rename_i Kb hKb
   refine hKb _ _ ?_
   clear hKb
   have BV : Below WL.heap.size WL WL.drew := (Below.refl _ WL).drew
   clear y0 l0 l1 p1
   obtain ⟨a1, a2, a3, a4, a5, a6, a7, -⟩ := FA.out WL.drew BV
   have y0 := a6.cell
   have q0 := a4.cell 0
   have q1 := a4.cell 1
   simp at q0 q1
   have RS := fun m => (callsIn_wide (n := m)).2 (rest_any a3 hf hxk)
   have F6 : Hid (∀ V6, Below WL.drew.heap.size WL.drew V6 -> Below WL.heap.size WL V6) := fun V6 hb6 => BV.trans (hb6.mono BV.size)
   clear a1 a2 a3 a4 a5 a6 a7
   gi_wp2
   first | refine tr2 ?_ | refine tr1 ?_
   gi_at_call 54
   refine (RS _).mono ?_
   clear RS y0 q0 q1
   rintro en6 V6 ⟨rfl, hB6⟩
   have B6 := F6.out V6 hB6
   obtain ⟨a1, a2, a3, a4, a5, a6, a7, -⟩ := FA.out V6 B6
   have y3 := a7.cell
   have ENC := fun m => (callsIn_wide (n := m)).2 (EN (rq E x) (rst E.L x) (rc E x) V6 (rest_small hf hxk) (rest_is a3.lin hf hxk).1)
   have F7 : Hid (∀ V7, Below V6.heap.size V6 V7 -> Below WL.heap.size WL V7) := fun V7 hb7 => B6.trans (hb7.mono B6.size)
   clear a1 a2 a3 a4 a5 a6 a7 hB6 F6
   cases hen : en (rst E.L x) with
   | none =>
    rw [hen] at ENC
    simp only [enV] at ENC
    have HRN : Hid (uptF O E.L E.n en (E.M.length - s.p.i - (i + 1)) (pAt s.p (i + 1)) false (TT ++ [rst E.L x]) = R) := by
     show _ = R
     rw [HGO.out, <- HX.out.1, hen]
    clear hen
    gi_wp2
    first | refine tr2 ?_ | refine tr1 ?_
    refine (ENC _).mono ?_
    clear ENC y3
    rintro en7 V7 ⟨rfl, hB7⟩
    have B7 := F7.out V7 hB7
    obtain ⟨a1, a2, a3, a4, a5, a6, a7, a8⟩ := FA.out V7 B7
    obtain ⟨v, Rw, g1, g2, g3, g4, g5⟩ := a2.li
    have hri := rest_is h.lin hf hxk
    obtain ⟨gg, gc, w1, hrun, k1, k2, k3', k4, k5, k6, -⟩ := a2.push (by omega) (by omega) g1 g2 g3 g4 g5 (by have h9 := congrArg List.length g4; rw [List.length_map] at h9; have := HTL.out; have := hf.l2; omega) ⟨rq E x, rst E.L x, rc E x⟩ ⟨hri.2.1, hri.2.2.1, hri.1, hri.2.2.2.2⟩
    have vb := g1.cell
    have vc := k1.cell
    have vd := k1.frozen
    simp only [rwV] at hrun
    have HF : Hid (KeepsFrom W3.heap.size W (w1.setCell ⟨w.heap.size + 1 + 1 + 1 + 1, 0, none⟩ (.slice (some ⟨gg, 0, none⟩) (Rw.length + 1) gc)) /\ Kq (orX (RP (w.heap.size + 1 + 1 + 1 + 1 + 1 + 1) (w.heap.size + 1 + 1 + 1 + 1 + 1) wb) X) W (w1.setCell ⟨w.heap.size + 1 + 1 + 1 + 1, 0, none⟩ (.slice (some ⟨gg, 0, none⟩) (Rw.length + 1) gc)) /\ ∃ T, Iu w W3 wb (w.heap.size + 1 + 1 + 1 + 1) T X (w1.setCell ⟨w.heap.size + 1 + 1 + 1 + 1, 0, none⟩ (.slice (some ⟨gg, 0, none⟩) (Rw.length + 1) gc)) /\ (i + 1 <= E.M.length - s.p.i /\ uptF O E.L E.n en (E.M.length - s.p.i - (i + 1)) (pAt s.p (i + 1)) (decide (i + 1 = 0)) T = R) /\ T.length = i + 1) := by
     refine ⟨⟨Nat.le_trans a1.size k4.size, fun k o hk ho hc => k4.same k o hk ((a1.block k (Array.getElem?_eq_some_iff.1 ho).1).trans ho) hc⟩, ⟨Nat.le_trans a1.size k4.size, fun k hk => ?_⟩, _, k3', ⟨by have := HIN.out; omega, HRN.out⟩, by rw [List.length_append, HTL.out]; rfl⟩
     have hkl : k < W.heap.size /\ (k < W3.heap.size \/ X k) /\ k ≠ w.heap.size + 1 + 1 + 1 + 1 := by
      rcases hk with hk | hk
      ·rcases hk with rfl | rfl | rfl <;> exact ⟨by omega, .inl (by omega), by omega⟩
      ·have := HOX.out k hk; exact ⟨this.2, .inr hk, by omega⟩
     exact (k5 k hkl.2.1 hkl.2.2).trans (a1.block k hkl.1)
    clear a1 a2 a3 a4 a5 a6 a7 a8 g1 g2 g3 g4 g5 k1 k2 k3' k4 k5 k6 hri FA
    gi_wp2_with (first | (gi_at_builtin; refine wpListIn_append_run rfl _ _ 73 rfl rfl rfl hrun ?_; clear hrun))
    exact HF.out
   | some m' =>
    rw [hen] at ENC
    simp only [enV] at ENC
    have hml : m' < (rst E.L x).length := hlt _ _ hen
    have HRN : Hid (R = .ok (TT ++ [(rst E.L x).take m'], x.plus (m' + 1))) := by
     show R = _
     rw [HGO.out, <- HX.out.1, hen]
    clear hen
    gi_wp2
    first | refine tr2 ?_ | refine tr1 ?_
    refine (ENC _).mono ?_
    clear ENC y3
    rintro en7 V7 ⟨rfl, hB7⟩
    have B7 := F7.out V7 hB7
    obtain ⟨a1, a2, a3, a4, a5, a6, a7, a8, a9⟩ := FA.out V7 B7
    have y0 := a6.cell
    have q0 := a4.cell 0
    have q1 := a4.cell 1
    simp at q0 q1
    have hrs := rest_small hf hxk
    have hxkk := hxk.lek hf
    have hmi : (m' : Int) <= 1300 := by omega
    have HW1 : Hid (IntKind.i64.wrap ((m' : Int) + 1) = (m' : Int) + 1) := wrapS (by omega) (by omega)
    have PLU := fun m V => (callsIn_wide (n := m)).2 (plus_any x (m' + 1) V (by omega))
    simp only [Pl.plus] at PLU
    rw [show (((m' + 1 : Nat)) : Int) = (m' : Int) + 1 by omega] at PLU
    have n1 : w.heap.size ≠ wb := by omega
    have n2 : W0.heap.size ≠ wb := by omega
    have HGX : Hid (∀ V8, Below V7.heap.size V7 V8 -> V8.cell? ⟨wb, 4, none⟩ = some (.int .i64 (s.p.i : Nat)) /\ V8.cell? ⟨wb, 5, none⟩ = some (.int .i64 (s.p.k : Nat)) /\ V8.frozen? ⟨wb, 4, none⟩ = false /\ V8.frozen? ⟨wb, 5, none⟩ = false /\ Hid (Below WL.heap.size WL V8)) := fun V8 hb8 => by
     have hw8 := a3.on hb8
     have e4 := hw8.cell 4
     have e5 := hw8.cell 5
     simp at e4 e5
     exact ⟨e4, e5, hw8.frozen 4, hw8.frozen 5, B7.trans (hb8.mono B7.size)⟩
    clear a1 a2 a3 a4 a5 a6 a7 a8 a9
    gi_wp2
    refine region_pickN (Sq2 V7 wb wb) (by kernel_rfl) ?_
    show Any _ _ _ _ _ _ 8 _ ⟨#[_,_,_,_,_,_,_,_,_,_,_,_,_,_,_,_,_,_,_,_,_,_,_,_,_,_,_,_,_,_,_,_,_,_,_,_,_,_,_,_,_,_,_,_,_,_,_,_,_,_,_,_,_,_,_,_,_,_,_,_,_,_,_,_,_,_,_,_,_,_,_,_,_,_,_,_,_,_,_,_,_,_,_,_,_,_], []⟩ V7.drew
    refine .tl 0 (.pointer (some ⟨wb, 0, none⟩)) rfl (fun w hw => by have a1 := hw.cell y0 n1 n1; go_simp) (Sq2.of ((Below.refl _ V7).drew)) ?_
    refine .tl 1 (.agg #[.int .i64 (x.i : Nat), .int .i64 (x.k : Nat)]) rfl (fun w hw => by have a1 := hw.cell q0 n2 n2; have a2 := hw.cell q1 n2 n2; go_simp) (Sq2.of ((Below.refl _ V7).drew)) ?_
    refine .tp 2 (.int .i64 (m' : Nat)) (Sq2.of ((Below.refl _ V7).drew)) ?_
    refine .tl 3 (.int .i64 ((m' : Int) + 1)) rfl (fun w _ => by have hw1 := HW1.out; go_simp) (Sq2.of ((Below.refl _ V7).drew)) ?_
    refine .on 4 rfl rfl fun K hK => ?_
    go_simp
    first | refine tr2 ?_ | refine tr1 ?_
    refine (PLU _ _).mono ?_
    clear PLU
    rintro en V8 ⟨rfl, hB8⟩
    have B8 := ((Below.refl _ V7).drew).trans (hB8.mono (Nat.le_refl _))
    have HG := HGX.out V8 B8
    refine hK _ _ (Sq2.of B8) ?_
    clear hK K
    show Any _ _ _ _ _ _ 3 _ ⟨#[_,_,_,_,_,_,_,_,_,_,_,_,_,_,_,_,_,_,_,_,_,_,_,_,_,_,_,_,_,_,_,_,_,_,_,_,_,_,_,_,_,_,_,_,_,_,_,_,_,_,_,_,_,_,_,_,_,_,_,_,_,_,_,_,_,_,_,_,_,_,_,_,_,_,_,_,_,_,_,_,_,_,_,_,_,_], []⟩ V8
    refine .tp 5 (.pointer (some ⟨wb, 0, none⟩)) (Sq2.of B8) ?_
    refine .tp 6 (.pointer (some ⟨wb, 4, none⟩)) (Sq2.of B8) ?_
    refine .on 7 rfl rfl fun K hK => ?_
    obtain ⟨v4, v5, v6, v7, HG2⟩ := HG
    go_simp
    refine hK _ _ (((Sq2.of B8).set1 _).set1 _) ?_
    clear hK K
    show Any _ _ _ _ _ _ 0 _ ⟨#[_,_,_,_,_,_,_,_,_,_,_,_,_,_,_,_,_,_,_,_,_,_,_,_,_,_,_,_,_,_,_,_,_,_,_,_,_,_,_,_,_,_,_,_,_,_,_,_,_,_,_,_,_,_,_,_,_,_,_,_,_,_,_,_,_,_,_,_,_,_,_,_,_,_,_,_,_,_,_,_,_,_,_,_,_,_], []⟩ ((V8.setCell ⟨wb, 4, none⟩ (.int .i64 (x.i : Nat))).setCell ⟨wb, 5, none⟩ (.int .i64 ((x.k + (m' + 1) : Nat) : Int)))
    refine Any.done (by kernel_rfl) ?_
    rename_i Kb hKb
    refine hKb _ _ ?_
    clear hKb
    clear y0 q0 q1 v4 v5 v6 v7 HGX
    have B8' := HG2.out
    clear HG2 B8 hB8
    obtain ⟨a1, a2, a3, a4, a5, a6, a7, a8, a9⟩ := FA.out V8 B8'
    obtain ⟨v, Rw, g1, g2, g3, g4, g5⟩ := a2.li
    have UF := up_fin (E := E) (s := s) (ov := ov) (tv := tv) hwl (show w.heap.size <= w.heap.size + 1 + 1 by omega) (show w.heap.size + 1 + 1 < w.heap.size + 1 + 1 + 1 by omega) (show w.heap.size + 1 + 1 + 1 < w.heap.size + 1 + 1 + 1 + 1 by omega) (show w.heap.size + 1 + 1 + 1 + 1 < W3.heap.size by omega) h a1 a2 a3 a8 a9 g1 g2 g3 g5 (by have h9 := congrArg List.length g4; rw [List.length_map] at h9; have := HTL.out; have := hf.l2; omega) (x.plus (m' + 1)) ⟨rq E x, (rst E.L x).take m', rc E x⟩ (by
     have hri := rest_is h.lin hf hxk
     exact ⟨by rw [List.length_take]; have := hri.2.1; show min m' _ <= rc E x; omega, hri.2.2.1, hri.1.take m', fun a e h0 => hri.2.2.2.2 a e (by rw [List.length_take] at h0; omega)⟩) (R := R) (by rw [HRN.out, List.map_append, g4]; rfl)
    have e9 : min m' (rst E.L x).length = m' := by omega
    simp only [rwV, Pl.plus, List.length_take, e9] at UF
    generalize ((V8.setCell ⟨wb, 4, none⟩ (.int .i64 (x.i : Nat))).setCell ⟨wb, 5, none⟩ (.int .i64 ((x.k + (m' + 1) : Nat) : Int))) = V9 at UF |-
    obtain ⟨vb, gg, gc, w1, hrun, S1, S2, hb2, hb3, w2, w3, w4, w5, HFF⟩ := UF
    have HSL : Hid (∀ w2, (Instr.slice 41 (.slice (rq E x) (rst E.L x).length (rc E x)) none (some (.int .i64 (m' : Nat))) none).run Tryz.prog w2 = .ok (.slice (rq E x) m' (rc E x)) w2) := slice_to (rq E x) (rst E.L x).length (rc E x) m' (by have := (rest_is h.lin hf hxk).2.1; omega)
    have HFF2 : Hid _ := HFF
    clear HFF a1 a2 a3 a4 a5 a6 a7 a8 a9 g1 g2 g3 g4 g5 FA e9
    gi_wp2
    refine region_pickN (Sw V9 (w.heap.size + 1 + 1 + 1 + 1)) (by kernel_rfl) ?_
    show Any _ _ _ _ _ _ 8 _ ⟨#[_,_,_,_,_,_,_,_,_,_,_,_,_,_,_,_,_,_,_,_,_,_,_,_,_,_,_,_,_,_,_,_,_,_,_,_,_,_,_,_,_,_,_,_,_,_,_,_,_,_,_,_,_,_,_,_,_,_,_,_,_,_,_,_,_,_,_,_,_,_,_,_,_,_,_,_,_,_,_,_,_,_,_,_,_,_], []⟩ V9.drew
    refine .tl 0 v rfl (fun w hw => by have a1 := hw.cell vb; go_simp) (Sw.drew V9 (w.heap.size + 1 + 1 + 1 + 1)) ?_
    refine .tp 1 (.slice (rq E x) (rst E.L x).length (rc E x)) (Sw.drew V9 (w.heap.size + 1 + 1 + 1 + 1)) ?_
    refine .tp 2 (.int .i64 (m' : Nat)) (Sw.drew V9 (w.heap.size + 1 + 1 + 1 + 1)) ?_
    refine .tl 3 (.slice (rq E x) m' (rc E x)) rfl (fun w _ => by have hsl := HSL.out w; go_simp) (Sw.drew V9 (w.heap.size + 1 + 1 + 1 + 1)) ?_
    refine .on 4 rfl rfl fun K hK => ?_
    go_simp
    refine hK _ _ S1 ?_
    clear hK K
    show Any _ _ _ _ _ _ 3 _ ⟨#[_,_,_,_,_,_,_,_,_,_,_,_,_,_,_,_,_,_,_,_,_,_,_,_,_,_,_,_,_,_,_,_,_,_,_,_,_,_,_,_,_,_,_,_,_,_,_,_,_,_,_,_,_,_,_,_,_,_,_,_,_,_,_,_,_,_,_,_,_,_,_,_,_,_,_,_,_,_,_,_,_,_,_,_,_,_], []⟩ (V9.drew.alloc (.cells #[.slice (rq E x) m' (rc E x)] 41))
    refine .on 5 rfl rfl fun K hK => ?_
    refine opIn_append_run _ _ 73 rfl rfl rfl hrun ?_
    refine hK _ _ S2 ?_
    clear hK K
    show Any _ _ _ _ _ _ 2 _ ⟨#[_,_,_,_,_,_,_,_,_,_,_,_,_,_,_,_,_,_,_,_,_,_,_,_,_,_,_,_,_,_,_,_,_,_,_,_,_,_,_,_,_,_,_,_,_,_,_,_,_,_,_,_,_,_,_,_,_,_,_,_,_,_,_,_,_,_,_,_,_,_,_,_,_,_,_,_,_,_,_,_,_,_,_,_,_,_], []⟩ w1
    refine .on 6 rfl rfl fun K hK => ?_
    go_simp
    refine hK _ _ (S2.set hb2 _) ?_
    clear hK K
    show Any _ _ _ _ _ _ 1 _ ⟨#[_,_,_,_,_,_,_,_,_,_,_,_,_,_,_,_,_,_,_,_,_,_,_,_,_,_,_,_,_,_,_,_,_,_,_,_,_,_,_,_,_,_,_,_,_,_,_,_,_,_,_,_,_,_,_,_,_,_,_,_,_,_,_,_,_,_,_,_,_,_,_,_,_,_,_,_,_,_,_,_,_,_,_,_,_,_], []⟩ (w1.setCell ⟨w.heap.size + 1 + 1, 0, none⟩ (.slice (some ⟨gg, 0, none⟩) (Rw.length + 1) gc))
    refine .on 7 rfl rfl fun K hK => ?_
    go_simp
    refine hK _ _ ((S2.set hb2 _).set hb3 _) ?_
    clear hK K
    show Any _ _ _ _ _ _ 0 _ ⟨#[_,_,_,_,_,_,_,_,_,_,_,_,_,_,_,_,_,_,_,_,_,_,_,_,_,_,_,_,_,_,_,_,_,_,_,_,_,_,_,_,_,_,_,_,_,_,_,_,_,_,_,_,_,_,_,_,_,_,_,_,_,_,_,_,_,_,_,_,_,_,_,_,_,_,_,_,_,_,_,_,_,_,_,_,_,_], []⟩ ((w1.setCell ⟨w.heap.size + 1 + 1, 0, none⟩ (.slice (some ⟨gg, 0, none⟩) (Rw.length + 1) gc)).setCell ⟨w.heap.size + 1 + 1 + 1, 0, none⟩ (.int .i64 0))
    refine Any.done (by kernel_rfl) ?_
    rename_i Kb hKb
    refine hKb _ _ ?_
    clear hKb
    clear vb hrun S1 S2 w2 w3 w4 w5
    gi_wp2
    exact HFF2.out
  ·have E2 : Hid (((x.i : Int) == (s.p.i : Int)) = false) := by show _ = _; rw [beq_eq_false_iff_ne]; have := HX.out.2; omega
   have E3 : Hid (¬ (x.i : Int) = (s.p.i : Int)) := by have := HX.out.2; show ¬ _; omega
   have HD0 : Hid (decide (i = 0) = false) := decide_eq_false hi0
   clear hi0
   gi_wp2
   refine region_pickN (Sq W) (by kernel_rfl) ?_
   show Any _ _ _ _ _ _ 19 _ ⟨#[_,_,_,_,_,_,_,_,_,_,_,_,_,_,_,_,_,_,_,_,_,_,_,_,_,_,_,_,_,_,_,_,_,_,_,_,_,_,_,_,_,_,_,_,_,_,_,_,_,_,_,_,_,_,_,_,_,_,_,_,_,_,_,_,_,_,_,_,_,_,_,_,_,_,_,_,_,_,_,_,_,_,_,_,_,_], []⟩ W.drew
   refine .tl 0 (.pointer (some ⟨wb, 0, none⟩)) rfl (fun w hw => by have a1 := hw.cell y0; go_simp) S0 ?_
   refine .tp 1 (.pointer (some ⟨wb, 0, none⟩)) S0 ?_
   refine .tp 2 (.pointer (some ⟨wb, 0, none⟩)) S0 ?_
   refine .tl 3 (.slice (some ⟨bl, ol, none⟩) E.M.length E.c) rfl (fun w hw => by have a1 := hw.cell c0; go_simp) S0 ?_
   refine .tp 4 (.pointer (some ⟨W0.heap.size, 0, none⟩)) S0 ?_
   refine .tl 5 (.int .i64 (x.i : Nat)) rfl (fun w hw => by have a1 := hw.cell q0; go_simp) S0 ?_
   show Any _ _ _ _ _ _ 13 _ ⟨#[_,_,_,_,_,_,_,_,_,_,_,_,_,_,_,_,_,_,_,_,_,_,_,_,_,_,_,_,_,_,_,_,_,_,_,_,_,_,_,_,_,_,_,_,_,_,_,_,_,_,_,_,_,_,_,_,_,_,_,_,_,_,_,_,_,_,_,_,_,_,_,_,_,_,_,_,_,_,_,_,_,_,_,_,_,_], []⟩ _
   refine .tp 6 (.pointer (some ⟨bl, ol + x.i * 2, none⟩)) S0 ?_
   refine .tl 7 (.agg #[.int .i64 ln.n, .slice ln.q ln.t.length ln.c]) rfl (fun w hw => by have a1 := hw.cell d0; have a2 := hw.cell d1; go_simp) S0 ?_
   refine .tp 8 (.pointer (some ⟨W0.heap.size, 0, none⟩)) S0 ?_
   refine .tl 9 (.int .i64 (x.i : Nat)) rfl (fun w hw => by have a1 := hw.cell q0; go_simp) S0 ?_
   refine .tl 10 (.pointer (some ⟨wb, 0, none⟩)) rfl (fun w hw => by have a1 := hw.cell y0; go_simp) S0 ?_
   refine .tp 11 (.pointer (some ⟨wb, 0, none⟩)) S0 ?_
   show Any _ _ _ _ _ _ 7 _ ⟨#[_,_,_,_,_,_,_,_,_,_,_,_,_,_,_,_,_,_,_,_,_,_,_,_,_,_,_,_,_,_,_,_,_,_,_,_,_,_,_,_,_,_,_,_,_,_,_,_,_,_,_,_,_,_,_,_,_,_,_,_,_,_,_,_,_,_,_,_,_,_,_,_,_,_,_,_,_,_,_,_,_,_,_,_,_,_], []⟩ _
   refine .tp 12 (.pointer (some ⟨wb, 4, none⟩)) S0 ?_
   refine .tp 13 (.pointer (some ⟨wb, 4, none⟩)) S0 ?_
   refine .tl 14 (.int .i64 (s.p.i : Nat)) rfl (fun w hw => by have a1 := hw.cell p4; go_simp) S0 ?_
   refine .tl 15 (.bool false) rfl (fun w _ => by have e2 := E2.out; have e3 := E3.out; go_simp) S0 ?_
   refine .on 16 rfl rfl fun K hK => ?_
   go_simp
   refine hK _ _ (S0.alloc (Nat.le_refl _) _) ?_
   clear hK K
   show Any _ _ _ _ _ _ 2 _ ⟨#[_,_,_,_,_,_,_,_,_,_,_,_,_,_,_,_,_,_,_,_,_,_,_,_,_,_,_,_,_,_,_,_,_,_,_,_,_,_,_,_,_,_,_,_,_,_,_,_,_,_,_,_,_,_,_,_,_,_,_,_,_,_,_,_,_,_,_,_,_,_,_,_,_,_,_,_,_,_,_,_,_,_,_,_,_,_], []⟩ (W.drew.alloc (.cells #[.int .i64 0, .slice none 0 0] 44))
   refine .on 17 rfl rfl fun K hK => ?_
   go_simp
   refine hK _ _ (fun k hk => Below.heap_alloc W _ k hk) ?_
   clear hK K
   show Any _ _ _ _ _ _ 1 _ ⟨#[_,_,_,_,_,_,_,_,_,_,_,_,_,_,_,_,_,_,_,_,_,_,_,_,_,_,_,_,_,_,_,_,_,_,_,_,_,_,_,_,_,_,_,_,_,_,_,_,_,_,_,_,_,_,_,_,_,_,_,_,_,_,_,_,_,_,_,_,_,_,_,_,_,_,_,_,_,_,_,_,_,_,_,_,_,_], []⟩ (W.alloc (.cells #[.int .i64 ln.n, .slice ln.q ln.t.length ln.c] 44)).drew
   refine .tp 18 (.bool false) (fun k hk => Below.heap_alloc W _ k hk) ?_
   refine Any.done (by kernel_rfl) ?_
   rename_i Kb hKb
   refine hKb _ _ ?_
   clear hKb
   have LK : Below W.heap.size W (W.alloc (.cells #[.int .i64 ln.n, .slice ln.q ln.t.length ln.c] 44)).drew := (below_alloc W _).drew
   have LBl : Bl (W.alloc (.cells #[.int .i64 ln.n, .slice ln.q ln.t.length ln.c] 44)).drew W.heap.size ln := World.alloc_heap_new W _
   generalize (W.alloc (.cells #[.int .i64 ln.n, .slice ln.q ln.t.length ln.c] 44)).drew = WL at LK LBl |-
   have FA : Hid (∀ V : World, Below WL.heap.size WL V -> Below W.heap.size W V /\ Iu w W3 wb (w.heap.size + 1 + 1 + 1 + 1) TT X V /\ Wk V wb E s ov tv /\ Bx V W0.heap.size (x.i : Nat) (x.k : Nat) /\ Bl V W.heap.size ln /\ Boxed V w.heap.size 93 (.pointer (some ⟨wb, 0, none⟩)) /\ Boxed V (w.heap.size + 1) 157 (.func (.func ff) #[] #[]) /\ Boxed V (w.heap.size + 1 + 1) 73 (.slice none 0 0) /\ Boxed V (w.heap.size + 1 + 1 + 1) 28 (.int .i64 0)) := fun V hV => by
    have a1 : Below W.heap.size W V := LK.trans (hV.mono LK.size)
    have a2 : Iu w W3 wb (w.heap.size + 1 + 1 + 1 + 1) TT X V := HIU.out.on (by omega) (by omega) a1
    exact ⟨a1, a2, h.on a2.bel, HBX.out.on a1, LBl.on hV, (a2.box _ (by omega) (by omega) (by omega)).trans x0, (a2.box _ (by omega) (by omega) (by omega)).trans x1, (a2.box _ (by omega) (by omega) (by omega)).trans x2, (a2.box _ (by omega) (by omega) (by omega)).trans x3⟩
   clear y0 c0 q0 q1 d0 d1 S0 p4
   obtain ⟨-, -, a3, -, a5, a6, -⟩ := FA.out WL (Below.refl _ _)
   have y0 := a6.cell
   have l0 := a5.cell 0
   have l1 := a5.cell 1
   have p1 := a3.cell 1
   simp at l0 l1 p1
   clear a5 a6
   obtain ⟨mv, hmv⟩ : ∃ mv, mk ln.lp = mv := ⟨_, rfl⟩
   have MC := fun m => (callsIn_wide (n := m)).2 (MK ln WL (hf.t2 _ ln hln) (a3.lin.1.1 _ ln hln))
   rw [hmv] at MC
   have HMV : Hid (O.marker ln.lp = decide (mv ≠ 0)) := by show _ = _; rw [hmk, hmv]
   clear hmv hmk MK a3
   by_cases hm0 : mv = 0
   ·have em : (mv == 0) = true := by rw [hm0]; rfl
    have HM : Hid (¬ O.marker ln.lp = true) := by show ¬ _; rw [HMV.out, hm0]; simp
    subst hm0
    gi_wp2
    first | refine tr2 ?_ | refine tr1 ?_
    gi_at_call 141
    refine (MC _).mono ?_
    clear MC y0 l0 l1 p1
    rintro en2 V2 ⟨rfl, B2⟩
    obtain ⟨-, -, a3, -, a5, a6, -⟩ := FA.out V2 B2
    have y0 := a6.cell
    have l0 := a5.cell 0
    have l1 := a5.cell 1
    have p1 := a3.cell 1
    simp at l0 l1 p1
    have EC := fun m => (callsIn_wide (n := m)).2 (LL.empty ln V2.drew (hf.t2 _ ln hln) (a3.drew.lin.1.1 _ ln hln))
    clear a3 a5 a6 em
    cases hem : O.empty ln.lp with
    | true =>
     rw [hem] at EC
     have HGO : Hid (R = match en (rst E.L (pAt s.p i)) with | some m => .ok (TT ++ [(rst E.L (pAt s.p i)).take m], (pAt s.p i).plus (m + 1)) | none => uptF O E.L E.n en (E.M.length - s.p.i - (i + 1)) (pAt s.p (i + 1)) false (TT ++ [rst E.L (pAt s.p i)])) := by
      show R = _
      rw [HST.out, if_neg (fun e => HM.out e.2), if_neg (fun e => by rw [hem] at e; cases e.2.1)]
     clear hem
     gi_wp2
     refine region_pickN (Sq V2) (by kernel_rfl) ?_
     show Any _ _ _ _ _ _ 16 _ ⟨#[_,_,_,_,_,_,_,_,_,_,_,_,_,_,_,_,_,_,_,_,_,_,_,_,_,_,_,_,_,_,_,_,_,_,_,_,_,_,_,_,_,_,_,_,_,_,_,_,_,_,_,_,_,_,_,_,_,_,_,_,_,_,_,_,_,_,_,_,_,_,_,_,_,_,_,_,_,_,_,_,_,_,_,_,_,_], []⟩ V2.drew
     refine .tp 0 (.bool false) (Sq.drew V2) ?_
     refine .tp 1 (.bool true) (Sq.drew V2) ?_
     refine .tp 2 (.bool true) (Sq.drew V2) ?_
     refine .tl 3 (.agg #[.int .i64 ln.n, .slice ln.q ln.t.length ln.c]) rfl (fun w hw => by have a1 := hw.cell l0; have a2 := hw.cell l1; go_simp) (Sq.drew V2) ?_
     refine .on 4 rfl rfl fun K hK => ?_
     go_simp
     first | refine tr2 ?_ | refine tr1 ?_
     refine (EC _).mono ?_
     clear EC
     rintro en V3 ⟨rfl, hB3⟩
     have B3 := ((Below.refl _ V2).drew).trans (hB3.mono (Nat.le_refl _))
     refine hK _ _ (Sq.of B3) ?_
     clear hK K
     show Any _ _ _ _ _ _ 11 _ ⟨#[_,_,_,_,_,_,_,_,_,_,_,_,_,_,_,_,_,_,_,_,_,_,_,_,_,_,_,_,_,_,_,_,_,_,_,_,_,_,_,_,_,_,_,_,_,_,_,_,_,_,_,_,_,_,_,_,_,_,_,_,_,_,_,_,_,_,_,_,_,_,_,_,_,_,_,_,_,_,_,_,_,_,_,_,_,_], []⟩ V3
     refine .tp 5 (.bool false) (Sq.of B3) ?_
     refine .tp 6 (.bool false) (Sq.of B3) ?_
     refine .tp 7 (.bool false) (Sq.of B3) ?_
     refine .ts 8 (Sq.of B3) ?_
     refine .ts 9 (Sq.of B3) ?_
     refine .ts 10 (Sq.of B3) ?_
     show Any _ _ _ _ _ _ 5 _ ⟨#[_,_,_,_,_,_,_,_,_,_,_,_,_,_,_,_,_,_,_,_,_,_,_,_,_,_,_,_,_,_,_,_,_,_,_,_,_,_,_,_,_,_,_,_,_,_,_,_,_,_,_,_,_,_,_,_,_,_,_,_,_,_,_,_,_,_,_,_,_,_,_,_,_,_,_,_,_,_,_,_,_,_,_,_,_,_], []⟩ _
     refine .ts 11 (Sq.of B3) ?_
     refine .ts 12 (Sq.of B3) ?_
     refine .ts 13 (Sq.of B3) ?_
     refine .ts 14 (Sq.of B3) ?_
     refine .tp 15 (.bool false) (Sq.of B3) ?_
     refine Any.done (by kernel_rfl) ?_
     rename_i Kb hKb
     refine hKb _ _ ?_
     clear hKb
     have BV : Below WL.heap.size WL V3 := B2.trans (B3.mono B2.size)
     clear y0 l0 l1 p1
     obtain ⟨a1, a2, a3, a4, a5, a6, a7, -⟩ := FA.out V3 BV
     have y0 := a6.cell
     have q0 := a4.cell 0
     have q1 := a4.cell 1
     simp at q0 q1
     have RS := fun m => (callsIn_wide (n := m)).2 (rest_any a3 hf hxk)
     have F6 : Hid (∀ V6, Below V3.heap.size V3 V6 -> Below WL.heap.size WL V6) := fun V6 hb6 => BV.trans (hb6.mono BV.size)
     clear a1 a2 a3 a4 a5 a6 a7
     gi_wp2
     first | refine tr2 ?_ | refine tr1 ?_
     gi_at_call 54
     refine (RS _).mono ?_
     clear RS y0 q0 q1
     rintro en6 V6 ⟨rfl, hB6⟩
     have B6 := F6.out V6 hB6
     obtain ⟨a1, a2, a3, a4, a5, a6, a7, -⟩ := FA.out V6 B6
     have y3 := a7.cell
     have ENC := fun m => (callsIn_wide (n := m)).2 (EN (rq E x) (rst E.L x) (rc E x) V6 (rest_small hf hxk) (rest_is a3.lin hf hxk).1)
     have F7 : Hid (∀ V7, Below V6.heap.size V6 V7 -> Below WL.heap.size WL V7) := fun V7 hb7 => B6.trans (hb7.mono B6.size)
     clear a1 a2 a3 a4 a5 a6 a7 hB6 F6
     cases hen : en (rst E.L x) with
     | none =>
      rw [hen] at ENC
      simp only [enV] at ENC
      have HRN : Hid (uptF O E.L E.n en (E.M.length - s.p.i - (i + 1)) (pAt s.p (i + 1)) false (TT ++ [rst E.L x]) = R) := by
       show _ = R
       rw [HGO.out, <- HX.out.1, hen]
      clear hen
      gi_wp2
      first | refine tr2 ?_ | refine tr1 ?_
      refine (ENC _).mono ?_
      clear ENC y3
      rintro en7 V7 ⟨rfl, hB7⟩
      have B7 := F7.out V7 hB7
      obtain ⟨a1, a2, a3, a4, a5, a6, a7, a8⟩ := FA.out V7 B7
      obtain ⟨v, Rw, g1, g2, g3, g4, g5⟩ := a2.li
      have hri := rest_is h.lin hf hxk
      obtain ⟨gg, gc, w1, hrun, k1, k2, k3', k4, k5, k6, -⟩ := a2.push (by omega) (by omega) g1 g2 g3 g4 g5 (by have h9 := congrArg List.length g4; rw [List.length_map] at h9; have := HTL.out; have := hf.l2; omega) ⟨rq E x, rst E.L x, rc E x⟩ ⟨hri.2.1, hri.2.2.1, hri.1, hri.2.2.2.2⟩
      have vb := g1.cell
      have vc := k1.cell
      have vd := k1.frozen
      simp only [rwV] at hrun
      have HF : Hid (KeepsFrom W3.heap.size W (w1.setCell ⟨w.heap.size + 1 + 1 + 1 + 1, 0, none⟩ (.slice (some ⟨gg, 0, none⟩) (Rw.length + 1) gc)) /\ Kq (orX (RP (w.heap.size + 1 + 1 + 1 + 1 + 1 + 1) (w.heap.size + 1 + 1 + 1 + 1 + 1) wb) X) W (w1.setCell ⟨w.heap.size + 1 + 1 + 1 + 1, 0, none⟩ (.slice (some ⟨gg, 0, none⟩) (Rw.length + 1) gc)) /\ ∃ T, Iu w W3 wb (w.heap.size + 1 + 1 + 1 + 1) T X (w1.setCell ⟨w.heap.size + 1 + 1 + 1 + 1, 0, none⟩ (.slice (some ⟨gg, 0, none⟩) (Rw.length + 1) gc)) /\ (i + 1 <= E.M.length - s.p.i /\ uptF O E.L E.n en (E.M.length - s.p.i - (i + 1)) (pAt s.p (i + 1)) (decide (i + 1 = 0)) T = R) /\ T.length = i + 1) := by
       refine ⟨⟨Nat.le_trans a1.size k4.size, fun k o hk ho hc => k4.same k o hk ((a1.block k (Array.getElem?_eq_some_iff.1 ho).1).trans ho) hc⟩, ⟨Nat.le_trans a1.size k4.size, fun k hk => ?_⟩, _, k3', ⟨by have := HIN.out; omega, HRN.out⟩, by rw [List.length_append, HTL.out]; rfl⟩
       have hkl : k < W.heap.size /\ (k < W3.heap.size \/ X k) /\ k ≠ w.heap.size + 1 + 1 + 1 + 1 := by
        rcases hk with hk | hk
        ·rcases hk with rfl | rfl | rfl <;> exact ⟨by omega, .inl (by omega), by omega⟩
        ·have := HOX.out k hk; exact ⟨this.2, .inr hk, by omega⟩
       exact (k5 k hkl.2.1 hkl.2.2).trans (a1.block k hkl.1)
      clear a1 a2 a3 a4 a5 a6 a7 a8 g1 g2 g3 g4 g5 k1 k2 k3' k4 k5 k6 hri FA
      gi_wp2_with (first | (gi_at_builtin; refine wpListIn_append_run rfl _ _ 73 rfl rfl rfl hrun ?_; clear hrun))
      exact HF.out
     | some m' =>
      rw [hen] at ENC
      simp only [enV] at ENC
      have hml : m' < (rst E.L x).length := hlt _ _ hen
      have HRN : Hid (R = .ok (TT ++ [(rst E.L x).take m'], x.plus (m' + 1))) := by
       show R = _
       rw [HGO.out, <- HX.out.1, hen]
      clear hen
      gi_wp2
      first | refine tr2 ?_ | refine tr1 ?_
      refine (ENC _).mono ?_
      clear ENC y3
      rintro en7 V7 ⟨rfl, hB7⟩
      have B7 := F7.out V7 hB7
      obtain ⟨a1, a2, a3, a4, a5, a6, a7, a8, a9⟩ := FA.out V7 B7
      have y0 := a6.cell
      have q0 := a4.cell 0
      have q1 := a4.cell 1
      simp at q0 q1
      have hrs := rest_small hf hxk
      have hxkk := hxk.lek hf
      have hmi : (m' : Int) <= 1300 := by omega
      have HW1 : Hid (IntKind.i64.wrap ((m' : Int) + 1) = (m' : Int) + 1) := wrapS (by omega) (by omega)
      have PLU := fun m V => (callsIn_wide (n := m)).2 (plus_any x (m' + 1) V (by omega))
      simp only [Pl.plus] at PLU
      rw [show (((m' + 1 : Nat)) : Int) = (m' : Int) + 1 by omega] at PLU
      have n1 : w.heap.size ≠ wb := by omega
      have n2 : W0.heap.size ≠ wb := by omega
      have HGX : Hid (∀ V8, Below V7.heap.size V7 V8 -> V8.cell? ⟨wb, 4, none⟩ = some (.int .i64 (s.p.i : Nat)) /\ V8.cell? ⟨wb, 5, none⟩ = some (.int .i64 (s.p.k : Nat)) /\ V8.frozen? ⟨wb, 4, none⟩ = false /\ V8.frozen? ⟨wb, 5, none⟩ = false /\ Hid (Below WL.heap.size WL V8)) := fun V8 hb8 => by
       have hw8 := a3.on hb8
       have e4 := hw8.cell 4
       have e5 := hw8.cell 5
       simp at e4 e5
       exact ⟨e4, e5, hw8.frozen 4, hw8.frozen 5, B7.trans (hb8.mono B7.size)⟩
      clear a1 a2 a3 a4 a5 a6 a7 a8 a9
      gi_wp2
      refine region_pickN (Sq2 V7 wb wb) (by kernel_rfl) ?_
      show Any _ _ _ _ _ _ 8 _ ⟨#[_,_,_,_,_,_,_,_,_,_,_,_,_,_,_,_,_,_,_,_,_,_,_,_,_,_,_,_,_,_,_,_,_,_,_,_,_,_,_,_,_,_,_,_,_,_,_,_,_,_,_,_,_,_,_,_,_,_,_,_,_,_,_,_,_,_,_,_,_,_,_,_,_,_,_,_,_,_,_,_,_,_,_,_,_,_], []⟩ V7.drew
      refine .tl 0 (.pointer (some ⟨wb, 0, none⟩)) rfl (fun w hw => by have a1 := hw.cell y0 n1 n1; go_simp) (Sq2.of ((Below.refl _ V7).drew)) ?_
      refine .tl 1 (.agg #[.int .i64 (x.i : Nat), .int .i64 (x.k : Nat)]) rfl (fun w hw => by have a1 := hw.cell q0 n2 n2; have a2 := hw.cell q1 n2 n2; go_simp) (Sq2.of ((Below.refl _ V7).drew)) ?_
      refine .tp 2 (.int .i64 (m' : Nat)) (Sq2.of ((Below.refl _ V7).drew)) ?_
      refine .tl 3 (.int .i64 ((m' : Int) + 1)) rfl (fun w _ => by have hw1 := HW1.out; go_simp) (Sq2.of ((Below.refl _ V7).drew)) ?_
      refine .on 4 rfl rfl fun K hK => ?_
      go_simp
      first | refine tr2 ?_ | refine tr1 ?_
      refine (PLU _ _).mono ?_
      clear PLU
      rintro en V8 ⟨rfl, hB8⟩
      have B8 := ((Below.refl _ V7).drew).trans (hB8.mono (Nat.le_refl _))
      have HG := HGX.out V8 B8
      refine hK _ _ (Sq2.of B8) ?_
      clear hK K
      show Any _ _ _ _ _ _ 3 _ ⟨#[_,_,_,_,_,_,_,_,_,_,_,_,_,_,_,_,_,_,_,_,_,_,_,_,_,_,_,_,_,_,_,_,_,_,_,_,_,_,_,_,_,_,_,_,_,_,_,_,_,_,_,_,_,_,_,_,_,_,_,_,_,_,_,_,_,_,_,_,_,_,_,_,_,_,_,_,_,_,_,_,_,_,_,_,_,_], []⟩ V8
      refine .tp 5 (.pointer (some ⟨wb, 0, none⟩)) (Sq2.of B8) ?_
      refine .tp 6 (.pointer (some ⟨wb, 4, none⟩)) (Sq2.of B8) ?_
      refine .on 7 rfl rfl fun K hK => ?_
      obtain ⟨v4, v5, v6, v7, HG2⟩ := HG
      go_simp
      refine hK _ _ (((Sq2.of B8).set1 _).set1 _) ?_
      clear hK K
      show Any _ _ _ _ _ _ 0 _ ⟨#[_,_,_,_,_,_,_,_,_,_,_,_,_,_,_,_,_,_,_,_,_,_,_,_,_,_,_,_,_,_,_,_,_,_,_,_,_,_,_,_,_,_,_,_,_,_,_,_,_,_,_,_,_,_,_,_,_,_,_,_,_,_,_,_,_,_,_,_,_,_,_,_,_,_,_,_,_,_,_,_,_,_,_,_,_,_], []⟩ ((V8.setCell ⟨wb, 4, none⟩ (.int .i64 (x.i : Nat))).setCell ⟨wb, 5, none⟩ (.int .i64 ((x.k + (m' + 1) : Nat) : Int)))
      refine Any.done (by kernel_rfl) ?_
      rename_i Kb hKb
      refine hKb _ _ ?_
      clear hKb
      clear y0 q0 q1 v4 v5 v6 v7 HGX
      have B8' := HG2.out
      clear HG2 B8 hB8
      obtain ⟨a1, a2, a3, a4, a5, a6, a7, a8, a9⟩ := FA.out V8 B8'
      obtain ⟨v, Rw, g1, g2, g3, g4, g5⟩ := a2.li
      have UF := up_fin (E := E) (s := s) (ov := ov) (tv := tv) hwl (show w.heap.size <= w.heap.size + 1 + 1 by omega) (show w.heap.size + 1 + 1 < w.heap.size + 1 + 1 + 1 by omega) (show w.heap.size + 1 + 1 + 1 < w.heap.size + 1 + 1 + 1 + 1 by omega) (show w.heap.size + 1 + 1 + 1 + 1 < W3.heap.size by omega) h a1 a2 a3 a8 a9 g1 g2 g3 g5 (by have h9 := congrArg List.length g4; rw [List.length_map] at h9; have := HTL.out; have := hf.l2; omega) (x.plus (m' + 1)) ⟨rq E x, (rst E.L x).take m', rc E x⟩ (by
       have hri := rest_is h.lin hf hxk
       exact ⟨by rw [List.length_take]; have := hri.2.1; show min m' _ <= rc E x; omega, hri.2.2.1, hri.1.take m', fun a e h0 => hri.2.2.2.2 a e (by rw [List.length_take] at h0; omega)⟩) (R := R) (by rw [HRN.out, List.map_append, g4]; rfl)
      have e9 : min m' (rst E.L x).length = m' := by omega
      simp only [rwV, Pl.plus, List.length_take, e9] at UF
      generalize ((V8.setCell ⟨wb, 4, none⟩ (.int .i64 (x.i : Nat))).setCell ⟨wb, 5, none⟩ (.int .i64 ((x.k + (m' + 1) : Nat) : Int))) = V9 at UF |-
      obtain ⟨vb, gg, gc, w1, hrun, S1, S2, hb2, hb3, w2, w3, w4, w5, HFF⟩ := UF
      have HSL : Hid (∀ w2, (Instr.slice 41 (.slice (rq E x) (rst E.L x).length (rc E x)) none (some (.int .i64 (m' : Nat))) none).run Tryz.prog w2 = .ok (.slice (rq E x) m' (rc E x)) w2) := slice_to (rq E x) (rst E.L x).length (rc E x) m' (by have := (rest_is h.lin hf hxk).2.1; omega)
      have HFF2 : Hid _ := HFF
      clear HFF a1 a2 a3 a4 a5 a6 a7 a8 a9 g1 g2 g3 g4 g5 FA e9
      gi_wp2
      refine region_pickN (Sw V9 (w.heap.size + 1 + 1 + 1 + 1)) (by kernel_rfl) ?_
      show Any _ _ _ _ _ _ 8 _ ⟨#[_,_,_,_,_,_,_,_,_,_,_,_,_,_,_,_,_,_,_,_,_,_,_,_,_,_,_,_,_,_,_,_,_,_,_,_,_,_,_,_,_,_,_,_,_,_,_,_,_,_,_,_,_,_,_,_,_,_,_,_,_,_,_,_,_,_,_,_,_,_,_,_,_,_,_,_,_,_,_,_,_,_,_,_,_,_], []⟩ V9.drew
      refine .tl 0 v rfl (fun w hw => by have a1 := hw.cell vb; go_simp) (Sw.drew V9 (w.heap.size + 1 + 1 + 1 + 1)) ?_
      refine .tp 1 (.slice (rq E x) (rst E.L x).length (rc E x)) (Sw.drew V9 (w.heap.size + 1 + 1 + 1 + 1)) ?_
      refine .tp 2 (.int .i64 (m' : Nat)) (Sw.drew V9 (w.heap.size + 1 + 1 + 1 + 1)) ?_
      refine .tl 3 (.slice (rq E x) m' (rc E x)) rfl (fun w _ => by have hsl := HSL.out w; go_simp) (Sw.drew V9 (w.heap.size + 1 + 1 + 1 + 1)) ?_
      refine .on 4 rfl rfl fun K hK => ?_
      go_simp
      refine hK _ _ S1 ?_
      clear hK K
      show Any _ _ _ _ _ _ 3 _ ⟨#[_,_,_,_,_,_,_,_,_,_,_,_,_,_,_,_,_,_,_,_,_,_,_,_,_,_,_,_,_,_,_,_,_,_,_,_,_,_,_,_,_,_,_,_,_,_,_,_,_,_,_,_,_,_,_,_,_,_,_,_,_,_,_,_,_,_,_,_,_,_,_,_,_,_,_,_,_,_,_,_,_,_,_,_,_,_], []⟩ (V9.drew.alloc (.cells #[.slice (rq E x) m' (rc E x)] 41))
      refine .on 5 rfl rfl fun K hK => ?_
      refine opIn_append_run _ _ 73 rfl rfl rfl hrun ?_
      refine hK _ _ S2 ?_
      clear hK K
      show Any _ _ _ _ _ _ 2 _ ⟨#[_,_,_,_,_,_,_,_,_,_,_,_,_,_,_,_,_,_,_,_,_,_,_,_,_,_,_,_,_,_,_,_,_,_,_,_,_,_,_,_,_,_,_,_,_,_,_,_,_,_,_,_,_,_,_,_,_,_,_,_,_,_,_,_,_,_,_,_,_,_,_,_,_,_,_,_,_,_,_,_,_,_,_,_,_,_], []⟩ w1
      refine .on 6 rfl rfl fun K hK => ?_
      go_simp
      refine hK _ _ (S2.set hb2 _) ?_
      clear hK K
      show Any _ _ _ _ _ _ 1 _ ⟨#[_,_,_,_,_,_,_,_,_,_,_,_,_,_,_,_,_,_,_,_,_,_,_,_,_,_,_,_,_,_,_,_,_,_,_,_,_,_,_,_,_,_,_,_,_,_,_,_,_,_,_,_,_,_,_,_,_,_,_,_,_,_,_,_,_,_,_,_,_,_,_,_,_,_,_,_,_,_,_,_,_,_,_,_,_,_], []⟩ (w1.setCell ⟨w.heap.size + 1 + 1, 0, none⟩ (.slice (some ⟨gg, 0, none⟩) (Rw.length + 1) gc))
      refine .on 7 rfl rfl fun K hK => ?_
      go_simp
      refine hK _ _ ((S2.set hb2 _).set hb3 _) ?_
      clear hK K
      show Any _ _ _ _ _ _ 0 _ ⟨#[_,_,_,_,_,_,_,_,_,_,_,_,_,_,_,_,_,_,_,_,_,_,_,_,_,_,_,_,_,_,_,_,_,_,_,_,_,_,_,_,_,_,_,_,_,_,_,_,_,_,_,_,_,_,_,_,_,_,_,_,_,_,_,_,_,_,_,_,_,_,_,_,_,_,_,_,_,_,_,_,_,_,_,_,_,_], []⟩ ((w1.setCell ⟨w.heap.size + 1 + 1, 0, none⟩ (.slice (some ⟨gg, 0, none⟩) (Rw.length + 1) gc)).setCell ⟨w.heap.size + 1 + 1 + 1, 0, none⟩ (.int .i64 0))
      refine Any.done (by kernel_rfl) ?_
      rename_i Kb hKb
      refine hKb _ _ ?_
      clear hKb
      clear vb hrun S1 S2 w2 w3 w4 w5
      gi_wp2
      exact HFF2.out
    | false =>
     rw [hem] at EC
     by_cases hle : ln.n <= E.n
     ·have EL : Hid (decide (ln.n <= E.n) = true) := decide_eq_true hle
      have HRE : Hid (R = .error 7) := by
       show R = _
       rw [HST.out, if_neg (fun e => HM.out e.2), if_pos ⟨HD0.out, hem, hle⟩]
      clear hle hem
      gi_wp2
      refine region_pickN (Sq V2) (by kernel_rfl) ?_
      show Any _ _ _ _ _ _ 16 _ ⟨#[_,_,_,_,_,_,_,_,_,_,_,_,_,_,_,_,_,_,_,_,_,_,_,_,_,_,_,_,_,_,_,_,_,_,_,_,_,_,_,_,_,_,_,_,_,_,_,_,_,_,_,_,_,_,_,_,_,_,_,_,_,_,_,_,_,_,_,_,_,_,_,_,_,_,_,_,_,_,_,_,_,_,_,_,_,_], []⟩ V2.drew
      refine .tp 0 (.bool false) (Sq.drew V2) ?_
      refine .tp 1 (.bool true) (Sq.drew V2) ?_
      refine .tp 2 (.bool true) (Sq.drew V2) ?_
      refine .tl 3 (.agg #[.int .i64 ln.n, .slice ln.q ln.t.length ln.c]) rfl (fun w hw => by have a1 := hw.cell l0; have a2 := hw.cell l1; go_simp) (Sq.drew V2) ?_
      refine .on 4 rfl rfl fun K hK => ?_
      go_simp
      first | refine tr2 ?_ | refine tr1 ?_
      refine (EC _).mono ?_
      clear EC
      rintro en V3 ⟨rfl, hB3⟩
      have B3 := ((Below.refl _ V2).drew).trans (hB3.mono (Nat.le_refl _))
      refine hK _ _ (Sq.of B3) ?_
      clear hK K
      show Any _ _ _ _ _ _ 11 _ ⟨#[_,_,_,_,_,_,_,_,_,_,_,_,_,_,_,_,_,_,_,_,_,_,_,_,_,_,_,_,_,_,_,_,_,_,_,_,_,_,_,_,_,_,_,_,_,_,_,_,_,_,_,_,_,_,_,_,_,_,_,_,_,_,_,_,_,_,_,_,_,_,_,_,_,_,_,_,_,_,_,_,_,_,_,_,_,_], []⟩ V3
      refine .tp 5 (.bool true) (Sq.of B3) ?_
      refine .tp 6 (.bool true) (Sq.of B3) ?_
      refine .tp 7 (.bool true) (Sq.of B3) ?_
      refine .tp 8 (.pointer (some ⟨W.heap.size, 0, none⟩)) (Sq.of B3) ?_
      refine .tl 9 (.int .i64 ln.n) rfl (fun w hw => by have a1 := hw.cell l0; go_simp) (Sq.of B3) ?_
      refine .tl 10 (.pointer (some ⟨wb, 0, none⟩)) rfl (fun w hw => by have a1 := hw.cell y0; go_simp) (Sq.of B3) ?_
      show Any _ _ _ _ _ _ 5 _ ⟨#[_,_,_,_,_,_,_,_,_,_,_,_,_,_,_,_,_,_,_,_,_,_,_,_,_,_,_,_,_,_,_,_,_,_,_,_,_,_,_,_,_,_,_,_,_,_,_,_,_,_,_,_,_,_,_,_,_,_,_,_,_,_,_,_,_,_,_,_,_,_,_,_,_,_,_,_,_,_,_,_,_,_,_,_,_,_], []⟩ _
      refine .tp 11 (.pointer (some ⟨wb, 0, none⟩)) (Sq.of B3) ?_
      refine .tp 12 (.pointer (some ⟨wb, 1, none⟩)) (Sq.of B3) ?_
      refine .tl 13 (.int .i64 E.n) rfl (fun w hw => by have a1 := hw.cell p1; go_simp) (Sq.of B3) ?_
      refine .tl 14 (.bool true) rfl (fun w _ => by have el := EL.out; go_simp) (Sq.of B3) ?_
      refine .tp 15 (.bool true) (Sq.of B3) ?_
      refine Any.done (by kernel_rfl) ?_
      rename_i Kb hKb
      refine hKb _ _ ?_
      clear hKb
      obtain ⟨a1, a2, a3, a4, a5, a6, a7, a8, a9⟩ := FA.out V3 (B2.trans (B3.mono B2.size))
      have UE := up_err (wb := wb) (E := E) (s := s) (ov := ov) (tv := tv) (c := 7) (show w.heap.size <= w.heap.size + 1 + 1 by omega) (Nat.lt_succ_self _) (show w.heap.size + 1 + 1 + 1 < W3.heap.size by omega) a2.sz (Kee.of a2.bel) ⟨a1.size, fun k o _ ho _ => (a1.block k (Array.getElem?_eq_some_iff.1 ho).1).trans ho⟩ a8 a9
      rw [<- HRE.out] at UE
      have HUE : Hid _ := UE
      have u0 := a8.cell
      have u1 := a8.frozen
      have u2 := a9.cell
      have u3 := a9.frozen
      clear UE a1 a2 a3 a4 a5 a6 a7 a8 a9 y0 l0 l1 p1
      gi_wp2
      exact HUE.out
     ·have EL : Hid (decide (ln.n <= E.n) = false) := decide_eq_false hle
      have HGO : Hid (R = match en (rst E.L (pAt s.p i)) with | some m => .ok (TT ++ [(rst E.L (pAt s.p i)).take m], (pAt s.p i).plus (m + 1)) | none => uptF O E.L E.n en (E.M.length - s.p.i - (i + 1)) (pAt s.p (i + 1)) false (TT ++ [rst E.L (pAt s.p i)])) := by
       show R = _
       rw [HST.out, if_neg (fun e => HM.out e.2), if_neg (fun e => hle e.2.2)]
      clear hle hem
      gi_wp2
      refine region_pickN (Sq V2) (by kernel_rfl) ?_
      show Any _ _ _ _ _ _ 16 _ ⟨#[_,_,_,_,_,_,_,_,_,_,_,_,_,_,_,_,_,_,_,_,_,_,_,_,_,_,_,_,_,_,_,_,_,_,_,_,_,_,_,_,_,_,_,_,_,_,_,_,_,_,_,_,_,_,_,_,_,_,_,_,_,_,_,_,_,_,_,_,_,_,_,_,_,_,_,_,_,_,_,_,_,_,_,_,_,_], []⟩ V2.drew
      refine .tp 0 (.bool false) (Sq.drew V2) ?_
      refine .tp 1 (.bool true) (Sq.drew V2) ?_
      refine .tp 2 (.bool true) (Sq.drew V2) ?_
      refine .tl 3 (.agg #[.int .i64 ln.n, .slice ln.q ln.t.length ln.c]) rfl (fun w hw => by have a1 := hw.cell l0; have a2 := hw.cell l1; go_simp) (Sq.drew V2) ?_
      refine .on 4 rfl rfl fun K hK => ?_
      go_simp
      first | refine tr2 ?_ | refine tr1 ?_
      refine (EC _).mono ?_
      clear EC
      rintro en V3 ⟨rfl, hB3⟩
      have B3 := ((Below.refl _ V2).drew).trans (hB3.mono (Nat.le_refl _))
      refine hK _ _ (Sq.of B3) ?_
      clear hK K
      show Any _ _ _ _ _ _ 11 _ ⟨#[_,_,_,_,_,_,_,_,_,_,_,_,_,_,_,_,_,_,_,_,_,_,_,_,_,_,_,_,_,_,_,_,_,_,_,_,_,_,_,_,_,_,_,_,_,_,_,_,_,_,_,_,_,_,_,_,_,_,_,_,_,_,_,_,_,_,_,_,_,_,_,_,_,_,_,_,_,_,_,_,_,_,_,_,_,_], []⟩ V3
      refine .tp 5 (.bool true) (Sq.of B3) ?_
      refine .tp 6 (.bool true) (Sq.of B3) ?_
      refine .tp 7 (.bool true) (Sq.of B3) ?_
      refine .tp 8 (.pointer (some ⟨W.heap.size, 0, none⟩)) (Sq.of B3) ?_
      refine .tl 9 (.int .i64 ln.n) rfl (fun w hw => by have a1 := hw.cell l0; go_simp) (Sq.of B3) ?_
      refine .tl 10 (.pointer (some ⟨wb, 0, none⟩)) rfl (fun w hw => by have a1 := hw.cell y0; go_simp) (Sq.of B3) ?_
      show Any _ _ _ _ _ _ 5 _ ⟨#[_,_,_,_,_,_,_,_,_,_,_,_,_,_,_,_,_,_,_,_,_,_,_,_,_,_,_,_,_,_,_,_,_,_,_,_,_,_,_,_,_,_,_,_,_,_,_,_,_,_,_,_,_,_,_,_,_,_,_,_,_,_,_,_,_,_,_,_,_,_,_,_,_,_,_,_,_,_,_,_,_,_,_,_,_,_], []⟩ _
      refine .tp 11 (.pointer (some ⟨wb, 0, none⟩)) (Sq.of B3) ?_
      refine .tp 12 (.pointer (some ⟨wb, 1, none⟩)) (Sq.of B3) ?_
      refine .tl 13 (.int .i64 E.n) rfl (fun w hw => by have a1 := hw.cell p1; go_simp) (Sq.of B3) ?_
      refine .tl 14 (.bool false) rfl (fun w _ => by have el := EL.out; go_simp) (Sq.of B3) ?_
      refine .tp 15 (.bool false) (Sq.of B3) ?_
      refine Any.done (by kernel_rfl) ?_
      rename_i Kb hKb
      refine hKb _ _ ?_
      clear hKb
      have BV : Below WL.heap.size WL V3 := B2.trans (B3.mono B2.size)
      clear y0 l0 l1 p1
      obtain ⟨a1, a2, a3, a4, a5, a6, a7, -⟩ := FA.out V3 BV
      have y0 := a6.cell
      have q0 := a4.cell 0
      have q1 := a4.cell 1
      simp at q0 q1
      have RS := fun m => (callsIn_wide (n := m)).2 (rest_any a3 hf hxk)
      have F6 : Hid (∀ V6, Below V3.heap.size V3 V6 -> Below WL.heap.size WL V6) := fun V6 hb6 => BV.trans (hb6.mono BV.size)
      clear a1 a2 a3 a4 a5 a6 a7
      gi_wp2
      first | refine tr2 ?_ | refine tr1 ?_
      gi_at_call 54
      refine (RS _).mono ?_
      clear RS y0 q0 q1
      rintro en6 V6 ⟨rfl, hB6⟩
      have B6 := F6.out V6 hB6
      obtain ⟨a1, a2, a3, a4, a5, a6, a7, -⟩ := FA.out V6 B6
      have y3 := a7.cell
      have ENC := fun m => (callsIn_wide (n := m)).2 (EN (rq E x) (rst E.L x) (rc E x) V6 (rest_small hf hxk) (rest_is a3.lin hf hxk).1)
      have F7 : Hid (∀ V7, Below V6.heap.size V6 V7 -> Below WL.heap.size WL V7) := fun V7 hb7 => B6.trans (hb7.mono B6.size)
      clear a1 a2 a3 a4 a5 a6 a7 hB6 F6
      cases hen : en (rst E.L x) with
      | none =>
       rw [hen] at ENC
       simp only [enV] at ENC
       have HRN : Hid (uptF O E.L E.n en (E.M.length - s.p.i - (i + 1)) (pAt s.p (i + 1)) false (TT ++ [rst E.L x]) = R) := by
        show _ = R
        rw [HGO.out, <- HX.out.1, hen]
       clear hen
       gi_wp2
       first | refine tr2 ?_ | refine tr1 ?_
       refine (ENC _).mono ?_
       clear ENC y3
       rintro en7 V7 ⟨rfl, hB7⟩
       have B7 := F7.out V7 hB7
       obtain ⟨a1, a2, a3, a4, a5, a6, a7, a8⟩ := FA.out V7 B7
       obtain ⟨v, Rw, g1, g2, g3, g4, g5⟩ := a2.li
       have hri := rest_is h.lin hf hxk
       obtain ⟨gg, gc, w1, hrun, k1, k2, k3', k4, k5, k6, -⟩ := a2.push (by omega) (by omega) g1 g2 g3 g4 g5 (by have h9 := congrArg List.length g4; rw [List.length_map] at h9; have := HTL.out; have := hf.l2; omega) ⟨rq E x, rst E.L x, rc E x⟩ ⟨hri.2.1, hri.2.2.1, hri.1, hri.2.2.2.2⟩
       have vb := g1.cell
       have vc := k1.cell
       have vd := k1.frozen
       simp only [rwV] at hrun
       have HF : Hid (KeepsFrom W3.heap.size W (w1.setCell ⟨w.heap.size + 1 + 1 + 1 + 1, 0, none⟩ (.slice (some ⟨gg, 0, none⟩) (Rw.length + 1) gc)) /\ Kq (orX (RP (w.heap.size + 1 + 1 + 1 + 1 + 1 + 1) (w.heap.size + 1 + 1 + 1 + 1 + 1) wb) X) W (w1.setCell ⟨w.heap.size + 1 + 1 + 1 + 1, 0, none⟩ (.slice (some ⟨gg, 0, none⟩) (Rw.length + 1) gc)) /\ ∃ T, Iu w W3 wb (w.heap.size + 1 + 1 + 1 + 1) T X (w1.setCell ⟨w.heap.size + 1 + 1 + 1 + 1, 0, none⟩ (.slice (some ⟨gg, 0, none⟩) (Rw.length + 1) gc)) /\ (i + 1 <= E.M.length - s.p.i /\ uptF O E.L E.n en (E.M.length - s.p.i - (i + 1)) (pAt s.p (i + 1)) (decide (i + 1 = 0)) T = R) /\ T.length = i + 1) := by
        refine ⟨⟨Nat.le_trans a1.size k4.size, fun k o hk ho hc => k4.same k o hk ((a1.block k (Array.getElem?_eq_some_iff.1 ho).1).trans ho) hc⟩, ⟨Nat.le_trans a1.size k4.size, fun k hk => ?_⟩, _, k3', ⟨by have := HIN.out; omega, HRN.out⟩, by rw [List.length_append, HTL.out]; rfl⟩
        have hkl : k < W.heap.size /\ (k < W3.heap.size \/ X k) /\ k ≠ w.heap.size + 1 + 1 + 1 + 1 := by
         rcases hk with hk | hk
         ·rcases hk with rfl | rfl | rfl <;> exact ⟨by omega, .inl (by omega), by omega⟩
         ·have := HOX.out k hk; exact ⟨this.2, .inr hk, by omega⟩
        exact (k5 k hkl.2.1 hkl.2.2).trans (a1.block k hkl.1)
       clear a1 a2 a3 a4 a5 a6 a7 a8 g1 g2 g3 g4 g5 k1 k2 k3' k4 k5 k6 hri FA
       gi_wp2_with (first | (gi_at_builtin; refine wpListIn_append_run rfl _ _ 73 rfl rfl rfl hrun ?_; clear hrun))
       exact HF.out
      | some m' =>
       rw [hen] at ENC
       simp only [enV] at ENC
       have hml : m' < (rst E.L x).length := hlt _ _ hen
       have HRN : Hid (R = .ok (TT ++ [(rst E.L x).take m'], x.plus (m' + 1))) := by
        show R = _
        rw [HGO.out, <- HX.out.1, hen]
       clear hen
       gi_wp2
       first | refine tr2 ?_ | refine tr1 ?_
       refine (ENC _).mono ?_
       clear ENC y3
       rintro en7 V7 ⟨rfl, hB7⟩
       have B7 := F7.out V7 hB7
       obtain ⟨a1, a2, a3, a4, a5, a6, a7, a8, a9⟩ := FA.out V7 B7
       have y0 := a6.cell
       have q0 := a4.cell 0
       have q1 := a4.cell 1
       simp at q0 q1
       have hrs := rest_small hf hxk
       have hxkk := hxk.lek hf
       have hmi : (m' : Int) <= 1300 := by omega
       have HW1 : Hid (IntKind.i64.wrap ((m' : Int) + 1) = (m' : Int) + 1) := wrapS (by omega) (by omega)
       have PLU := fun m V => (callsIn_wide (n := m)).2 (plus_any x (m' + 1) V (by omega))
       simp only [Pl.plus] at PLU
       rw [show (((m' + 1 : Nat)) : Int) = (m' : Int) + 1 by omega] at PLU
       have n1 : w.heap.size ≠ wb := by omega
       have n2 : W0.heap.size ≠ wb := by omega
       have HGX : Hid (∀ V8, Below V7.heap.size V7 V8 -> V8.cell? ⟨wb, 4, none⟩ = some (.int .i64 (s.p.i : Nat)) /\ V8.cell? ⟨wb, 5, none⟩ = some (.int .i64 (s.p.k : Nat)) /\ V8.frozen? ⟨wb, 4, none⟩ = false /\ V8.frozen? ⟨wb, 5, none⟩ = false /\ Hid (Below WL.heap.size WL V8)) := fun V8 hb8 => by
        have hw8 := a3.on hb8
        have e4 := hw8.cell 4
        have e5 := hw8.cell 5
        simp at e4 e5
        exact ⟨e4, e5, hw8.frozen 4, hw8.frozen 5, B7.trans (hb8.mono B7.size)⟩
       clear a1 a2 a3 a4 a5 a6 a7 a8 a9
       gi_wp2
       refine region_pickN (Sq2 V7 wb wb) (by kernel_rfl) ?_
       show Any _ _ _ _ _ _ 8 _ ⟨#[_,_,_,_,_,_,_,_,_,_,_,_,_,_,_,_,_,_,_,_,_,_,_,_,_,_,_,_,_,_,_,_,_,_,_,_,_,_,_,_,_,_,_,_,_,_,_,_,_,_,_,_,_,_,_,_,_,_,_,_,_,_,_,_,_,_,_,_,_,_,_,_,_,_,_,_,_,_,_,_,_,_,_,_,_,_], []⟩ V7.drew
       refine .tl 0 (.pointer (some ⟨wb, 0, none⟩)) rfl (fun w hw => by have a1 := hw.cell y0 n1 n1; go_simp) (Sq2.of ((Below.refl _ V7).drew)) ?_
       refine .tl 1 (.agg #[.int .i64 (x.i : Nat), .int .i64 (x.k : Nat)]) rfl (fun w hw => by have a1 := hw.cell q0 n2 n2; have a2 := hw.cell q1 n2 n2; go_simp) (Sq2.of ((Below.refl _ V7).drew)) ?_
       refine .tp 2 (.int .i64 (m' : Nat)) (Sq2.of ((Below.refl _ V7).drew)) ?_
       refine .tl 3 (.int .i64 ((m' : Int) + 1)) rfl (fun w _ => by have hw1 := HW1.out; go_simp) (Sq2.of ((Below.refl _ V7).drew)) ?_
       refine .on 4 rfl rfl fun K hK => ?_
       go_simp
       first | refine tr2 ?_ | refine tr1 ?_
       refine (PLU _ _).mono ?_
       clear PLU
       rintro en V8 ⟨rfl, hB8⟩
       have B8 := ((Below.refl _ V7).drew).trans (hB8.mono (Nat.le_refl _))
       have HG := HGX.out V8 B8
       refine hK _ _ (Sq2.of B8) ?_
       clear hK K
       show Any _ _ _ _ _ _ 3 _ ⟨#[_,_,_,_,_,_,_,_,_,_,_,_,_,_,_,_,_,_,_,_,_,_,_,_,_,_,_,_,_,_,_,_,_,_,_,_,_,_,_,_,_,_,_,_,_,_,_,_,_,_,_,_,_,_,_,_,_,_,_,_,_,_,_,_,_,_,_,_,_,_,_,_,_,_,_,_,_,_,_,_,_,_,_,_,_,_], []⟩ V8
       refine .tp 5 (.pointer (some ⟨wb, 0, none⟩)) (Sq2.of B8) ?_
       refine .tp 6 (.pointer (some ⟨wb, 4, none⟩)) (Sq2.of B8) ?_
       refine .on 7 rfl rfl fun K hK => ?_
       obtain ⟨v4, v5, v6, v7, HG2⟩ := HG
       go_simp
       refine hK _ _ (((Sq2.of B8).set1 _).set1 _) ?_
       clear hK K
       show Any _ _ _ _ _ _ 0 _ ⟨#[_,_,_,_,_,_,_,_,_,_,_,_,_,_,_,_,_,_,_,_,_,_,_,_,_,_,_,_,_,_,_,_,_,_,_,_,_,_,_,_,_,_,_,_,_,_,_,_,_,_,_,_,_,_,_,_,_,_,_,_,_,_,_,_,_,_,_,_,_,_,_,_,_,_,_,_,_,_,_,_,_,_,_,_,_,_], []⟩ ((V8.setCell ⟨wb, 4, none⟩ (.int .i64 (x.i : Nat))).setCell ⟨wb, 5, none⟩ (.int .i64 ((x.k + (m' + 1) : Nat) : Int)))
       refine Any.done (by kernel_rfl) ?_
       rename_i Kb hKb
       refine hKb _ _ ?_
       clear hKb
       clear y0 q0 q1 v4 v5 v6 v7 HGX
       have B8' := HG2.out
       clear HG2 B8 hB8
       obtain ⟨a1, a2, a3, a4, a5, a6, a7, a8, a9⟩ := FA.out V8 B8'
       obtain ⟨v, Rw, g1, g2, g3, g4, g5⟩ := a2.li
       have UF := up_fin (E := E) (s := s) (ov := ov) (tv := tv) hwl (show w.heap.size <= w.heap.size + 1 + 1 by omega) (show w.heap.size + 1 + 1 < w.heap.size + 1 + 1 + 1 by omega) (show w.heap.size + 1 + 1 + 1 < w.heap.size + 1 + 1 + 1 + 1 by omega) (show w.heap.size + 1 + 1 + 1 + 1 < W3.heap.size by omega) h a1 a2 a3 a8 a9 g1 g2 g3 g5 (by have h9 := congrArg List.length g4; rw [List.length_map] at h9; have := HTL.out; have := hf.l2; omega) (x.plus (m' + 1)) ⟨rq E x, (rst E.L x).take m', rc E x⟩ (by
        have hri := rest_is h.lin hf hxk
        exact ⟨by rw [List.length_take]; have := hri.2.1; show min m' _ <= rc E x; omega, hri.2.2.1, hri.1.take m', fun a e h0 => hri.2.2.2.2 a e (by rw [List.length_take] at h0; omega)⟩) (R := R) (by rw [HRN.out, List.map_append, g4]; rfl)
       have e9 : min m' (rst E.L x).length = m' := by omega
       simp only [rwV, Pl.plus, List.length_take, e9] at UF
       generalize ((V8.setCell ⟨wb, 4, none⟩ (.int .i64 (x.i : Nat))).setCell ⟨wb, 5, none⟩ (.int .i64 ((x.k + (m' + 1) : Nat) : Int))) = V9 at UF |-
       obtain ⟨vb, gg, gc, w1, hrun, S1, S2, hb2, hb3, w2, w3, w4, w5, HFF⟩ := UF
       have HSL : Hid (∀ w2, (Instr.slice 41 (.slice (rq E x) (rst E.L x).length (rc E x)) none (some (.int .i64 (m' : Nat))) none).run Tryz.prog w2 = .ok (.slice (rq E x) m' (rc E x)) w2) := slice_to (rq E x) (rst E.L x).length (rc E x) m' (by have := (rest_is h.lin hf hxk).2.1; omega)
       have HFF2 : Hid _ := HFF
       clear HFF a1 a2 a3 a4 a5 a6 a7 a8 a9 g1 g2 g3 g4 g5 FA e9
       gi_wp2
       refine region_pickN (Sw V9 (w.heap.size + 1 + 1 + 1 + 1)) (by kernel_rfl) ?_
       show Any _ _ _ _ _ _ 8 _ ⟨#[_,_,_,_,_,_,_,_,_,_,_,_,_,_,_,_,_,_,_,_,_,_,_,_,_,_,_,_,_,_,_,_,_,_,_,_,_,_,_,_,_,_,_,_,_,_,_,_,_,_,_,_,_,_,_,_,_,_,_,_,_,_,_,_,_,_,_,_,_,_,_,_,_,_,_,_,_,_,_,_,_,_,_,_,_,_], []⟩ V9.drew
       refine .tl 0 v rfl (fun w hw => by have a1 := hw.cell vb; go_simp) (Sw.drew V9 (w.heap.size + 1 + 1 + 1 + 1)) ?_
       refine .tp 1 (.slice (rq E x) (rst E.L x).length (rc E x)) (Sw.drew V9 (w.heap.size + 1 + 1 + 1 + 1)) ?_
       refine .tp 2 (.int .i64 (m' : Nat)) (Sw.drew V9 (w.heap.size + 1 + 1 + 1 + 1)) ?_
       refine .tl 3 (.slice (rq E x) m' (rc E x)) rfl (fun w _ => by have hsl := HSL.out w; go_simp) (Sw.drew V9 (w.heap.size + 1 + 1 + 1 + 1)) ?_
       refine .on 4 rfl rfl fun K hK => ?_
       go_simp
       refine hK _ _ S1 ?_
       clear hK K
       show Any _ _ _ _ _ _ 3 _ ⟨#[_,_,_,_,_,_,_,_,_,_,_,_,_,_,_,_,_,_,_,_,_,_,_,_,_,_,_,_,_,_,_,_,_,_,_,_,_,_,_,_,_,_,_,_,_,_,_,_,_,_,_,_,_,_,_,_,_,_,_,_,_,_,_,_,_,_,_,_,_,_,_,_,_,_,_,_,_,_,_,_,_,_,_,_,_,_], []⟩ (V9.drew.alloc (.cells #[.slice (rq E x) m' (rc E x)] 41))
       refine .on 5 rfl rfl fun K hK => ?_
       refine opIn_append_run _ _ 73 rfl rfl rfl hrun ?_
       refine hK _ _ S2 ?_
       clear hK K
       show Any _ _ _ _ _ _ 2 _ ⟨#[_,_,_,_,_,_,_,_,_,_,_,_,_,_,_,_,_,_,_,_,_,_,_,_,_,_,_,_,_,_,_,_,_,_,_,_,_,_,_,_,_,_,_,_,_,_,_,_,_,_,_,_,_,_,_,_,_,_,_,_,_,_,_,_,_,_,_,_,_,_,_,_,_,_,_,_,_,_,_,_,_,_,_,_,_,_], []⟩ w1
       refine .on 6 rfl rfl fun K hK => ?_
       go_simp
       refine hK _ _ (S2.set hb2 _) ?_
       clear hK K
       show Any _ _ _ _ _ _ 1 _ ⟨#[_,_,_,_,_,_,_,_,_,_,_,_,_,_,_,_,_,_,_,_,_,_,_,_,_,_,_,_,_,_,_,_,_,_,_,_,_,_,_,_,_,_,_,_,_,_,_,_,_,_,_,_,_,_,_,_,_,_,_,_,_,_,_,_,_,_,_,_,_,_,_,_,_,_,_,_,_,_,_,_,_,_,_,_,_,_], []⟩ (w1.setCell ⟨w.heap.size + 1 + 1, 0, none⟩ (.slice (some ⟨gg, 0, none⟩) (Rw.length + 1) gc))
       refine .on 7 rfl rfl fun K hK => ?_
       go_simp
       refine hK _ _ ((S2.set hb2 _).set hb3 _) ?_
       clear hK K
       show Any _ _ _ _ _ _ 0 _ ⟨#[_,_,_,_,_,_,_,_,_,_,_,_,_,_,_,_,_,_,_,_,_,_,_,_,_,_,_,_,_,_,_,_,_,_,_,_,_,_,_,_,_,_,_,_,_,_,_,_,_,_,_,_,_,_,_,_,_,_,_,_,_,_,_,_,_,_,_,_,_,_,_,_,_,_,_,_,_,_,_,_,_,_,_,_,_,_], []⟩ ((w1.setCell ⟨w.heap.size + 1 + 1, 0, none⟩ (.slice (some ⟨gg, 0, none⟩) (Rw.length + 1) gc)).setCell ⟨w.heap.size + 1 + 1 + 1, 0, none⟩ (.int .i64 0))
       refine Any.done (by kernel_rfl) ?_
       rename_i Kb hKb
       refine hKb _ _ ?_
       clear hKb
       clear vb hrun S1 S2 w2 w3 w4 w5
       gi_wp2
       exact HFF2.out
   ·have em : (mv == 0) = false := by rw [beq_eq_false_iff_ne]; exact hm0
    have em2 : (mv != 0) = true := by simp [hm0]
    have HRE : Hid (R = .error 2) := by
     show R = _
     rw [HST.out, if_pos ⟨HD0.out, by rw [HMV.out]; exact decide_eq_true hm0⟩]
    clear hm0
    gi_wp2
    first | refine tr2 ?_ | refine tr1 ?_
    gi_at_call 141
    refine (MC _).mono ?_
    clear MC y0 l0 l1 p1
    rintro en2 V2 ⟨rfl, B2⟩
    obtain ⟨a1, a2, a3, a4, a5, a6, a7, a8, a9⟩ := FA.out V2 B2
    have HFIN : Hid (KeepsFrom W3.heap.size W V2 /\ UpX w W3 wb E s ov tv (w.heap.size + 1 + 1) (w.heap.size + 1 + 1 + 1) R (.exit 0) V2) := ⟨⟨a1.size, fun k o _ ho _ => (a1.block k (Array.getElem?_eq_some_iff.1 ho).1).trans ho⟩, a2.sz, Kee.of a2.bel, .inr ⟨rfl, a8, a9, HRE.out⟩⟩
    clear a1 a2 a3 a4 a5 a6 a7 a8 a9 FA
    gi_wp2
    exact HFIN.out
 case done =>
  intro D X W hD hI hK
  obtain ⟨T, hiu, ⟨-, hru⟩, -⟩ := hI
  have hRn : R = .error 2 := by
   rw [<- hru, plsL_len, Nat.sub_self]
   rfl
  have a8 : Boxed W (w.heap.size + 1 + 1) 73 (.slice none 0 0) := (hiu.box _ (by omega) (by omega) (by omega)).trans x2
  have a9 : Boxed W (w.heap.size + 1 + 1 + 1) 28 (.int .i64 0) := (hiu.box _ (by omega) (by omega) (by omega)).trans x3
  have hs1 := hiu.sz
  have hke := Kee.of (wb := wb) hiu.bel
  clear hiu hru HSQ
  have UE := (up_err (W := W) (E := E) (s := s) (ov := ov) (tv := tv) (c := 2) (show w.heap.size <= w.heap.size + 1 + 1 by omega) (Nat.lt_succ_self _) (show w.heap.size + 1 + 1 + 1 < W3.heap.size by omega) hs1 hke ⟨Nat.le_refl _, fun _ _ _ ho _ => ho⟩ a8 a9).2
  rw [<- hRn] at UE
  obtain ⟨-, z2, ⟨-, v, e, r2, r3, hv⟩ | ⟨hc, -⟩⟩ := UE
  ·have u0 := a8.cell
   have u1 := a8.frozen
   have u2 := a9.cell
   have u3 := a9.frozen
   have hK2 : Hid (((W.setCell ⟨w.heap.size + 1 + 1, 0, none⟩ (.slice none 0 0)).setCell ⟨w.heap.size + 1 + 1 + 1, 0, none⟩ (.int .i64 2)).heap[D]? = some (.deferred (some []))) := by
    show _ = _
    rw [Below.heap_setCell _ _ _ _ (show D ≠ w.heap.size + 1 + 1 + 1 by omega), Below.heap_setCell _ _ _ _ (show D ≠ w.heap.size + 1 + 1 by omega)]
    exact hK
   have HN : Hid _ := (⟨hv, r2, r3, z2⟩ : _ /\ _ /\ _ /\ _)
   clear hv r2 r3 z2 hK a8 a9
   gi_wp2
   obtain ⟨hv, r2, r3, z2⟩ := HN.out
   refine ⟨by simp, .inl ⟨_, _, rfl, run_takeDeferred hK2.out, ?_⟩⟩
   refine ⟨_, results_up rfl rfl rfl (boxed_put' r2 (by show w.heap.size + 1 + 1 ≠ D; omega) _) (boxed_put' r3 (by show w.heap.size + 1 + 1 + 1 ≠ D; omega) _), ?_⟩
   exact up_post (by omega) (fun cur t r e => by rw [hK2.out] at e; cases e) _ h z2 hv
  ·cases hc
 case stop =>
  rintro D cd i W hD ⟨z1, z2, z3⟩ hK
  rcases z3 with ⟨rfl, v, e, r2, r3, hv⟩ | ⟨rfl, a8, a9, hRn⟩
  ·have HV : Hid _ := hv
   have HZ : Hid _ := z2
   clear hv z2 HSQ
   gi_wp2
   refine ⟨by simp, .inl ⟨_, _, rfl, run_takeDeferred hK, ?_⟩⟩
   refine ⟨_, results_up rfl rfl rfl (boxed_put' r2 (by show w.heap.size + 1 + 1 ≠ D; omega) _) (boxed_put' r3 (by show w.heap.size + 1 + 1 + 1 ≠ D; omega) _), ?_⟩
   exact up_post (by omega) (fun cur t r e => by rw [hK] at e; cases e) _ h HZ.out HV.out
  ·have hs1 := z1
   have hke := z2
   clear z1 z2 HSQ
   have UE := (up_err (W := W) (E := E) (s := s) (ov := ov) (tv := tv) (c := 2) (show w.heap.size <= w.heap.size + 1 + 1 by omega) (Nat.lt_succ_self _) (show w.heap.size + 1 + 1 + 1 < W3.heap.size by omega) hs1 hke ⟨Nat.le_refl _, fun _ _ _ ho _ => ho⟩ a8 a9).2
   rw [<- hRn] at UE
   obtain ⟨-, z2, ⟨-, v, e, r2, r3, hv⟩ | ⟨hc, -⟩⟩ := UE
   ·have u0 := a8.cell
    have u1 := a8.frozen
    have u2 := a9.cell
    have u3 := a9.frozen
    have hK2 : Hid (((W.setCell ⟨w.heap.size + 1 + 1, 0, none⟩ (.slice none 0 0)).setCell ⟨w.heap.size + 1 + 1 + 1, 0, none⟩ (.int .i64 2)).heap[D]? = some (.deferred (some []))) := by
     show _ = _
     rw [Below.heap_setCell _ _ _ _ (show D ≠ w.heap.size + 1 + 1 + 1 by omega), Below.heap_setCell _ _ _ _ (show D ≠ w.heap.size + 1 + 1 by omega)]
     exact hK
    have HN : Hid _ := (⟨hv, r2, r3, z2⟩ : _ /\ _ /\ _ /\ _)
    clear hv r2 r3 z2 hK a8 a9
    gi_wp2
    obtain ⟨hv, r2, r3, z2⟩ := HN.out
    refine ⟨by simp, .inl ⟨_, _, rfl, run_takeDeferred hK2.out, ?_⟩⟩
    refine ⟨_, results_up rfl rfl rfl (boxed_put' r2 (by show w.heap.size + 1 + 1 ≠ D; omega) _) (boxed_put' r3 (by show w.heap.size + 1 + 1 + 1 ≠ D; omega) _), ?_⟩
    exact up_post (by omega) (fun cur t r e => by rw [hK2.out] at e; cases e) _ h z2 hv
   ·cases hc
theorem upTo105_any {w : World} {wb : Nat} {E : Env} {s : St} {ov tv : Value} {O : Orc} {en : List Int -> Option Nat} (LO : LowC O) (LL : LowL O) (EN : Ends 105 en) (hlt : ∀ t k, en t = some k -> k < t.length) (h : Wk w wb E s ov tv) (hf : Fine E) (hp : Okp E s.p) :
  Calls Tryz.prog 107 #[(.pointer (some ⟨wb, 0, none⟩)), (.func (.func 105) #[] #[])] w fun e w' => UpPost w wb E s ov tv (uptW O E.L E.n en s.p) e w' :=
 upToF_any (fun ar w => by simp [callFunc, Tryz.func105, Tryz.f105, go_sem]) LO LL EN hlt h hf hp
theorem upTo106_any {w : World} {wb : Nat} {E : Env} {s : St} {ov tv : Value} {O : Orc} {en : List Int -> Option Nat} (LO : LowC O) (LL : LowL O) (EN : Ends 106 en) (hlt : ∀ t k, en t = some k -> k < t.length) (h : Wk w wb E s ov tv) (hf : Fine E) (hp : Okp E s.p) :
  Calls Tryz.prog 107 #[(.pointer (some ⟨wb, 0, none⟩)), (.func (.func 106) #[] #[])] w fun e w' => UpPost w wb E s ov tv (uptW O E.L E.n en s.p) e w' :=
 upToF_any (fun ar w => by simp [callFunc, Tryz.func106, Tryz.f106, go_sem]) LO LL EN hlt h hf hp
end Go.Proofs.YtipbhdhiklmieaaGreatDoor
