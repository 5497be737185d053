/- flowPoints' iterator: it tells the code points of Flow's text, for every body. -/
import Derived.Test.YtipbhdhiklmieaaGreatDoorZAM
import Derived.Deep.AppendLies
set_option linter.all false
set_option maxRecDepth 100000
set_option maxHeartbeats 8000000
namespace Go.Proofs.YtipbhdhiklmieaaGreatDoor.P8
open Go.RowKit Go.Shelf
attribute [local go_sem] Oper.semAt_some
def joinT (sep : Int -> Nat -> List Int) (g : Nat -> List Int) (ys : List Nat) : List Int × Int := ys.foldl (fun s i => (s.1 ++ sep s.2 i ++ g i, (i : Int))) ([], -1)
theorem joinT_snoc (sep : Int -> Nat -> List Int) (g : Nat -> List Int) (ys : List Nat) (i : Nat) : joinT sep g (ys ++ [i]) = ((joinT sep g ys).1 ++ sep (joinT sep g ys).2 i ++ g i, (i : Int)) := by
 unfold joinT
 rw [List.foldl_append]
 rfl
theorem joinT_last (sep : Int -> Nat -> List Int) (g : Nat -> List Int) (ys : List Nat) : (ys = [] /\ (joinT sep g ys).2 = -1) \/ ∃ i, i ∈ ys /\ (joinT sep g ys).2 = (i : Int) := by
 rcases List.eq_nil_or_concat ys with rfl | ⟨zs, i, rfl⟩
 ·exact .inl ⟨rfl, rfl⟩
 ·refine .inr ⟨i, by simp, ?_⟩
  rw [List.concat_eq_append, joinT_snoc]
def sepI (d : Int) : List Int := if d = 0 then [32] else List.replicate d.toNat 10
def sepFl (b : Int) (i : Nat) : List Int := if b < 0 then [] else sepI ((i : Int) - b - 1)
theorem rep_fold {n0 N B l : Nat} {J : (Nat -> Prop) -> List Int -> World -> Prop} (hJ : Abx B J) (hY : Rounds n0 N Tryz.prog l encI J) (n : Nat) (X : Nat -> Prop) (pre : List Int) (W : World) (d : Int)
  (h0 : J X pre W) (hn : n0 <= W.heap.size) (hk : pre.length + 1 + d.toNat <= N) (hk2 : d <= 1099511627776) :
  CallsIn Fence.wide n Tryz.prog 187 #[foldV d, .func (.yield l) #[] #[]] W fun e W' => e = .returned (.bool true) /\ J X (pre ++ sepI d) W' /\ Kx n0 l X W W' := by
 by_cases h : d = 0
 ·have := repeat_in hJ hY n X pre W 32 1 h0 hn (by simp; omega) (by omega)
  unfold foldV sepI
  rw [if_pos h, if_pos h]
  exact this
 ·have := repeat_in hJ hY n X pre W 10 d h0 hn (by omega) hk2
  unfold foldV sepI
  rw [if_neg h, if_neg h]
  exact this
def Inl {R : List Row} {g : Nat -> List Int} {E : Nat -> Prop} (J : (Nat -> Prop) -> List Int -> World -> Prop) (X : Nat -> Prop) (sep : Int -> Nat -> List Int) (n0 l B1 B2 B3 : Nat) (p : Option Addr) (cap : Nat) (W : World) (pre : List (Pc R g E)) (W' : World) : Prop :=
 J X (joinT sep g (places pre)).1 W' /\ Boxed W' B2 3 (.int .i64 (joinT sep g (places pre)).2) /\ Boxed W' B1 54 (.func (.yield l) #[] #[]) /\ Boxed W' B3 73 (.slice p R.length cap) /\ Below n0 W W'
theorem Inl_own {R : List Row} {g : Nat -> List Int} {E : Nat -> Prop} {J : (Nat -> Prop) -> List Int -> World -> Prop} {B B' : Nat} (hJ : Abx B J) (hB : B <= B') (X : Nat -> Prop) (sep : Int -> Nat -> List Int) (n0 l B1 B2 B3 : Nat) (p : Option Addr) (cap : Nat) (W : World) (hn : n0 <= B') (hnW : n0 <= W.heap.size) :
  OwnFrom B' (Inl (R := R) (g := g) (E := E) J X sep n0 l B1 B2 B3 p cap W) :=
 OwnFrom.and (hJ.ownFromF hB X (fun pre : List (Pc R g E) => (joinT sep g (places pre)).1)) (OwnFrom.and (Own.from (boxed_own _ _ _) _) (OwnFrom.and (Own.from (boxed_own _ _ _) _) (OwnFrom.and (Own.from (boxed_own _ _ _) _) (ownFrom_below hnW hn))))
def w3 (W : World) (l : Nat) (p : Option Addr) (len cap : Nat) : World := ((W.alloc (.cells #[.func (.yield l) #[] #[]] 54)).alloc (.cells #[.int .i64 (-1)] 3)).alloc (.cells #[.slice p len cap] 73)
theorem w3_facts (W : World) (l : Nat) (p : Option Addr) (len cap : Nat) : (w3 W l p len cap).heap.size = W.heap.size + 3 /\ Boxed (w3 W l p len cap) W.heap.size 54 (.func (.yield l) #[] #[]) /\ Boxed (w3 W l p len cap) (W.heap.size + 1) 3 (.int .i64 (-1)) /\ Boxed (w3 W l p len cap) (W.heap.size + 1 + 1) 73 (.slice p len cap) /\ Below W.heap.size W (w3 W l p len cap) := by
 have b1 := Boxed.new W 54 (.func (.yield l) #[] #[])
 have b2 := Boxed.new (W.alloc (.cells #[.func (.yield l) #[] #[]] 54)) 3 (.int .i64 (-1))
 have b3 := Boxed.new ((W.alloc (.cells #[.func (.yield l) #[] #[]] 54)).alloc (.cells #[.int .i64 (-1)] 3)) 73 (.slice p len cap)
 simp only [World.size_alloc] at b2 b3
 exact ⟨by simp [w3], (b1.alloc _).alloc _, b2.alloc _, b3, (((Below.refl _ W).alloc (Nat.le_refl _) _).alloc (by simp) _).alloc (by simp; omega) _⟩
def x3 (X : Nat -> Prop) (s : Nat) : Nat -> Prop := more (more (more X s) (s + 1)) (s + 1 + 1)
theorem w3_J {B : Nat} {J : (Nat -> Prop) -> List Int -> World -> Prop} (hJ : Abx B J) {X : Nat -> Prop} {W : World} {pre : List Int} (h : J X pre W) (l : Nat) (p : Option Addr) (len cap : Nat) : J (x3 X W.heap.size) pre (w3 W l p len cap) := by
 have := hJ.new _ _ _ (.cells #[.slice p len cap] 73) (hJ.new _ _ _ (.cells #[.int .i64 (-1)] 3) (hJ.new X pre W (.cells #[.func (.yield l) #[] #[]] 54) h))
 simp only [World.size_alloc] at this
 exact this
theorem wrapi (x : Int) (h1 : -4611686018427387904 <= x) (h2 : x <= 4611686018427387904) : IntKind.i64.wrap x = x := by rw [IntKind.wrap_i64]; omega
theorem Kx.grown {n0 l : Nat} {X : Nat -> Prop} {W W' : World} (hn : n0 <= W.heap.size) (hX : ∀ b, X b -> b < W.heap.size) (h : W.grownBy W' none) : Kx n0 l X W W' :=
 ⟨(Below.refl n0 W).grown h hn (fun k e => by cases e), fun b hb => h.block b (hX b hb) (by simp), fun k o _ ho _ => (h.block k (Array.getElem?_eq_some_iff.1 ho).1 (by simp)).trans ho⟩
theorem round_end {R : List Row} {g : Nat -> List Int} {E : Nat -> Prop} {J : (Nat -> Prop) -> List Int -> World -> Prop} {B : Nat} {X : Nat -> Prop} {sep : Int -> Nat -> List Int} {n0 l s cap : Nat} {p : Option Addr} {W0 W1 W4 : World} {pre : List (Pc R g E)} (x : Pc R g E) (hJ : Abx B J) (hs : n0 <= s) (hl : l < W0.heap.size) (hB : s + 3 <= W0.heap.size)
  (hI : Inl J (x3 X s) sep n0 l s (s + 1) (s + 1 + 1) p cap W0 pre W1) (kx : Kx n0 l (x3 X s) W1 W4) (hJ4 : J (x3 X s) ((joinT sep g (places pre)).1 ++ sep (joinT sep g (places pre)).2 x.1.1 ++ g x.1.1) W4) :
  Hid (KeepsFrom W0.heap.size W1 (W4.setCell ⟨s + 1, 0, none⟩ (.int .i64 (x.1.1 : Nat))) /\ Kp n0 (s + 1 + 1) W1 (W4.setCell ⟨s + 1, 0, none⟩ (.int .i64 (x.1.1 : Nat))) /\
   Inl J (x3 X s) sep n0 l s (s + 1) (s + 1 + 1) p cap W0 (pre ++ [x]) (W4.setCell ⟨s + 1, 0, none⟩ (.int .i64 (x.1.1 : Nat)))) := by
 obtain ⟨hJ1, bB, bY, bL, hB1⟩ := hI
 have x1 : x3 X s s := .inl (.inl (.inr rfl))
 have x2 : x3 X s (s + 1) := .inl (.inr rfl)
 have x3' : x3 X s (s + 1 + 1) := .inr rfl
 have bB4 := kx.boxed x2 bB
 have bY4 := kx.boxed x1 bY
 have bL4 := kx.boxed x3' bL
 have hb5 : Below n0 W1 (W4.setCell ⟨s + 1, 0, none⟩ (.int .i64 (x.1.1 : Nat))) := kx.below.setCell (p := ⟨s + 1, 0, none⟩) (by show n0 <= s + 1; omega) _
 have bL5 := bL4.other (B' := s + 1) (by omega) (.int .i64 (x.1.1 : Nat))
 refine ⟨(kx.from hl).trans ((KeepsOthers.setCell _ _ _).from _), ⟨hb5, Eq.trans bL5 (Eq.symm bL)⟩, ?_, ?_, bY4.other (by omega) _, bL5, hB1.trans hb5⟩
 ·rw [places_snoc, joinT_snoc]
  exact hJ.set hJ4 x2 _
 ·rw [places_snoc, joinT_snoc]
  exact bB4.set _
theorem joinT_len (sep : Int -> Nat -> List Int) (g : Nat -> List Int) (M L : Nat) (hM : ∀ i, (g i).length <= M) (hs : ∀ b i, -1 <= b -> i < L -> (sep b i).length <= L + 1) (ys : List Nat) (hy : ∀ i, i ∈ ys -> i < L) : (joinT sep g ys).1.length <= ys.length * (M + L + 1) := by
 have gen : ∀ (ys : List Nat) (o : List Int) (b : Int), -1 <= b -> (∀ i, i ∈ ys -> i < L) -> (ys.foldl (fun (s : List Int × Int) i => (s.1 ++ sep s.2 i ++ g i, (i : Int))) (o, b)).1.length <= o.length + ys.length * (M + L + 1) := by
  intro ys
  induction ys with
  | nil => intro o b _ _; simp
  | cons y ys ih =>
   intro o b hb hy
   have h1 := hM y
   have h2 := hs b y hb (hy y (by simp))
   have h3 := ih (o ++ sep b y ++ g y) (y : Int) (by omega) (fun i hi => hy i (by simp [hi]))
   rw [List.foldl_cons]
   refine Nat.le_trans h3 ?_
   rw [List.length_append, List.length_append, List.length_cons, Nat.add_mul]
   omega
 have := gen ys [] (-1) (by omega) hy
 simpa [joinT] using this
theorem sepI_len (d : Int) (L : Nat) (h : d <= L) : (sepI d).length <= L + 1 := by
 unfold sepI
 split
 ·simp
 ·simp; omega
theorem sepFl_len (L : Nat) (b : Int) (i : Nat) (hb : -1 <= b) (hi : i < L) : (sepFl b i).length <= L + 1 := by
 unfold sepFl
 split
 ·simp
 ·exact sepI_len _ _ (by omega)
theorem places_lt {R : List Row} {g : Nat -> List Int} {E : Nat -> Prop} (ys : List (Pc R g E)) : ∀ i, i ∈ places ys -> i < R.length := by
 intro i hi
 obtain ⟨y, -, rfl⟩ := List.mem_map.1 hi
 obtain ⟨-, r, q, c, hr, -⟩ := y.2
 exact (List.getElem?_eq_some_iff.1 hr).1
theorem places_len {R : List Row} {g : Nat -> List Int} {E : Nat -> Prop} (ys : List (Pc R g E)) : (places ys).length = ys.length := by simp [places]
theorem flow1_in (n : Nat) (hn : 3 <= n) (n0 N cap Bl l : Nat) (p : Option Addr) (R : List Row) (hR : R.length <= 1048576) (hT : ∀ i, (trimG R i).length <= 1048576) (hN : 4398046511104 <= N)
  (J : (Nat -> Prop) -> List Int -> World -> Prop) (X : Nat -> Prop) (W : World) (hl : l < W.heap.size) (hn0 : n0 <= W.heap.size) (hJ : Abx W.heap.size J) (hY : Rounds n0 N Tryz.prog l encI J)
  (hBl : W.cell? ⟨Bl, 0, none⟩ = some (.slice p R.length cap)) (hM : MtB n0 W p R) (h0 : J X [] W) :
  CallsIn Fence.wide n Tryz.prog 185 #[.func (.yield l) #[] #[], .pointer (some ⟨Bl, 0, none⟩)] W fun e W' => (∃ v, e = .returned v) /\ ∃ xs, xs = (joinT sepFl (trimG R) (told (tellF R) R.length)).1 /\ J X xs W' := by
 have h1 : 1 <= n := by omega
 refine callsIn_of_wp_marks Tryz.func185 rfl trivial ?_ rfl
 simp only [Tryz.ntmps185, frm, Nat.reduceAdd, Nat.reduceSub]
 have hBlt := World.block_lt_of_cell? W _ hBl
 gi_wp2_with (first | (refine ⟨trivial, ?_⟩; gi_at_call 186; refine (tlines_in _ _ _ _ _).mono ?_; rintro e w' ⟨rfl, rfl⟩))
 change Code.wpIn _ _ _ _ _ _ (w3 W l p R.length cap)
 obtain ⟨hsz, bY, bB, bL, hbw⟩ := w3_facts W l p R.length cap
 have hJ0 := w3_J hJ h0 l p R.length cap
 generalize w3 W l p R.length cap = W0 at hsz bY bB bL hbw hJ0 |-
 have hM0 := hM.on (hbw.mono hn0)
 refine wpIn_rangeFunc_ownG rfl h1 (gf := 200) (lb := #[.pointer (some ⟨W.heap.size + 1 + 1, 0, none⟩)]) rfl trivial (enters_of Tryz.func200 (by kernel_rfl) rfl)
  (tl_stops (n - 1) (by omega) (W.heap.size + 1 + 1) n0 cap p R (by omega) W0 (by omega) (by omega) bL.cell hM0)
  (fun h k => Kp.trans h k) (hKb1 (by omega) (by omega)) (Below.refl _ _) (fun _ => rfl)
  (Inl J (x3 X W.heap.size) sepFl n0 l W.heap.size (W.heap.size + 1) (W.heap.size + 1 + 1) p cap W0) (fun _ _ _ => False)
  (Inl_own hJ (by omega) _ _ _ _ _ _ _ _ _ _ (by omega) (by omega)) (fun c => ownFrom_pure _ _)
  ⟨hJ0, bB, bY, bL, Below.refl _ _⟩
  (fun x => { tmps := #[.func (.yield l) #[] #[], .pointer (some ⟨Bl, 0, none⟩), .pointer (some ⟨W.heap.size, 0, none⟩), .pointer (some ⟨W.heap.size + 1, 0, none⟩), .int .i64 (x.1.1 : Nat), x.1.2, .slice p R.length cap, .func (.func 200) #[] #[.pointer (some ⟨W.heap.size + 1 + 1, 0, none⟩)], .int .i64 (x.1.1 : Nat), x.1.2, undef, undef, undef, undef, undef, undef, undef, undef, undef, undef, undef, undef, undef, undef, undef, undef, undef], defers := [] }) ?assign ?body ?done ?stop
 case assign =>
  intro l1 x W1 K hK
  simp only [encP]
  gi_wp2
  exact hK
 case body =>
  clear bY bB bL hbw hJ0 hBl hM h0
  rintro l1 pre x W1 ⟨hJ1, bB, bY, bL, hB1⟩ hlt
  have hIn : Inl J (x3 X W.heap.size) sepFl n0 l W.heap.size (W.heap.size + 1) (W.heap.size + 1 + 1) p cap W0 pre W1 := ⟨hJ1, bB, bY, bL, hB1⟩
  have RE := fun W4 kx hJ4 => round_end (W4 := W4) x hJ hn0 (by omega) (by omega) hIn kx hJ4
  have hLen := joinT_len sepFl (trimG R) 1048576 R.length hT (fun b i hb hi => sepFl_len _ b i hb hi) (places pre) (places_lt pre)
  rw [places_len] at hLen
  have hLen2 : (joinT sepFl (trimG R) (places pre)).1.length + 3000000 <= N := by
   have : pre.length * (1048576 + R.length + 1) <= 1048575 * 2097153 := Nat.mul_le_mul (by omega) (by omega)
   omega
  clear hLen hIn
  obtain ⟨⟨i, v⟩, hE, r, q, c, hr, hv, hsb⟩ := x
  dsimp only at hr hv hsb RE |-
  subst hv
  have hiR : i < R.length := (List.getElem?_eq_some_iff.1 hr).1
  have hTi := hT i
  have Iq : Is W1 q (trimG R i) := hsb.is ((hM0.on hB1).1.1 i r hr).2.2
  have Bq := hsb.block ((hM0.on hB1).2.2 i r hr)
  have hX1 := fun b hb => hJ.lt _ _ _ b hJ1 hb
  have hs1 : W.heap.size + 3 <= W1.heap.size := by have := hB1.size; omega
  have x1 : x3 X W.heap.size W.heap.size := .inl (.inl (.inr rfl))
  have x2 : x3 X W.heap.size (W.heap.size + 1) := .inl (.inr rfl)
  rcases joinT_last sepFl (trimG R) (places pre) with ⟨hp0, hb⟩ | ⟨j, hj, hb⟩
  ·rw [hb] at bB RE
   generalize (joinT sepFl (trimG R) (places pre)).1 = T at hJ1 RE hLen2
   clear hb hp0
   gi_wp2
   refine region_pick (fun w' => Boxed w' (W.heap.size + 1) 3 (.int .i64 (-1)) /\ Boxed w' W.heap.size 54 (.func (.yield l) #[] #[])) (by kernel_rfl) ?_
   show Any _ _ _ _ _ _ 12 _ ⟨#[_,_,_,_,_,_,_,_,_,_,_,_,_,_,_,_,_,_,_,_,_,_,_,_,_,_,_], []⟩ W1.drew
   refine .tl 0 (.int .i64 (-1)) rfl (fun w hw => by have := hw.1.cell; go_simp) ⟨bB, bY⟩ ?_
   refine .tp 1 (.bool false) ⟨bB, bY⟩ ?_
   refine .tp 2 (.bool false) ⟨bB, bY⟩ ?_
   refine .ts 3 ⟨bB, bY⟩ ?_
   refine .ts 4 ⟨bB, bY⟩ ?_
   refine .ts 5 ⟨bB, bY⟩ ?_
   show Any _ _ _ _ _ _ 6 _ ⟨#[_,_,_,_,_,_,_,_,_,_,_,_,_,_,_,_,_,_,_,_,_,_,_,_,_,_,_], []⟩ _
   refine .ts 6 ⟨bB, bY⟩ ?_
   refine .ts 7 ⟨bB, bY⟩ ?_
   refine .ts 8 ⟨bB, bY⟩ ?_
   refine .ts 9 ⟨bB, bY⟩ ?_
   refine .ts 10 ⟨bB, bY⟩ ?_
   refine .tp 11 (.bool false) ⟨bB, bY⟩ ?_
   show Any _ _ _ _ _ _ 0 _ ⟨#[_,_,_,_,_,_,_,_,_,_,_,_,_,_,_,_,_,_,_,_,_,_,_,_,_,_,_], []⟩ _
   refine Any.done (by kernel_rfl) ?_
   have cY1 : W1.drew.cell? ⟨W.heap.size, 0, none⟩ = some (.func (.yield l) #[] #[]) := bY.cell
   have HD : Hid (sepFl (-1) i = []) := rfl
   have EA := fun n => each_in hJ hY n _ _ W1.drew q (trimG R i) c (hJ.drew hJ1) Iq.drew Bq (by omega) (by omega)
   gi_wp2_with (first | (refine ⟨trivial, (fun h => by cases h), ?_⟩; gi_at_call 189; refine (CallsIn.inRound l1 (EA _)).mono ?_; rintro e W4 ⟨rfl, hJ4, kx4⟩; have cB4 := (kx4.boxed (A := W1.drew) x2 bB).cell; have fB4 := (kx4.boxed (A := W1.drew) x2 bB).frozen))
   exact (RE W4 ((Kx.drew _ _ _ _).trans kx4) (by rw [HD.out, List.append_nil]; exact hJ4)).out
  ·have hjR := places_lt pre j hj
   rw [hb] at bB RE
   have e5 := wrapi ((i : Int) - (j : Int)) (by omega) (by omega)
   have e6 := wrapi ((i : Int) - (j : Int) - 1) (by omega) (by omega)
   generalize (joinT sepFl (trimG R) (places pre)).1 = T at hJ1 RE hLen2
   clear hb hj
   gi_wp2
   refine region_pick (fun w' => Boxed w' (W.heap.size + 1) 3 (.int .i64 j) /\ Boxed w' W.heap.size 54 (.func (.yield l) #[] #[])) (by kernel_rfl) ?_
   show Any _ _ _ _ _ _ 12 _ ⟨#[_,_,_,_,_,_,_,_,_,_,_,_,_,_,_,_,_,_,_,_,_,_,_,_,_,_,_], []⟩ W1.drew
   refine .tl 0 (.int .i64 (j : Nat)) rfl (fun w hw => by have := hw.1.cell; go_simp) ⟨bB, bY⟩ ?_
   refine .tp 1 (.bool true) ⟨bB, bY⟩ ?_
   refine .tp 2 (.bool true) ⟨bB, bY⟩ ?_
   refine .tp 3 (.int .i64 (i : Nat)) ⟨bB, bY⟩ ?_
   refine .tl 4 (.int .i64 (j : Nat)) rfl (fun w hw => by have := hw.1.cell; go_simp) ⟨bB, bY⟩ ?_
   refine .tp 5 (.int .i64 ((i : Int) - (j : Int))) ⟨bB, bY⟩ ?_
   show Any _ _ _ _ _ _ 6 _ ⟨#[_,_,_,_,_,_,_,_,_,_,_,_,_,_,_,_,_,_,_,_,_,_,_,_,_,_,_], []⟩ _
   refine .tp 6 (.int .i64 ((i : Int) - (j : Int) - 1)) ⟨bB, bY⟩ ?_
   refine .tl 8 (.func (.yield l) #[] #[]) rfl (fun w hw => by have := hw.2.cell; go_simp) ⟨bB, bY⟩ ?_
   refine .on 7 rfl rfl fun K hK => ?_
   go_simp
   refine ⟨trivial, (fun h => by cases h), ?_⟩
   refine (CallsIn.inRound l1 (folded_in _ _ _)).mono ?_
   rintro e W2 ⟨rfl, hg⟩
   have bB2 := Boxed.kept (W := W1.drew) bB hg (by simp)
   have bY2 := Boxed.kept (W := W1.drew) bY hg (by simp)
   have hJ2 := hJ.step _ _ W1.drew W2 none (hJ.drew hJ1) hg (fun r e => by cases e)
   have kx2 : Kx n0 l (x3 X W.heap.size) W1 W2 := (Kx.drew _ _ _ _).trans (Kx.grown (W := W1.drew) (by show n0 <= W1.heap.size; omega) hX1 hg)
   have hs2 : W.heap.size + 3 <= W2.heap.size := Nat.le_trans hs1 kx2.below.size
   have REP := fun n => rep_fold hJ hY n _ _ W2 ((i : Int) - (j : Int) - 1) hJ2 (by omega) (by omega) (by omega)
   have HD : Hid (sepFl (j : Int) i = sepI ((i : Int) - (j : Int) - 1)) := (by show sepFl _ _ = _; unfold sepFl; rw [if_neg (by omega)])
   have hd1 : ((i : Int) - (j : Int) - 1) <= 1048576 := by omega
   obtain ⟨xa, xb, hfv⟩ := foldV_form ((i : Int) - (j : Int) - 1)
   rw [hfv] at REP |-
   refine hK _ _ ⟨bB2, bY2⟩ ?_
   clear hK K
   show Any _ _ _ _ _ _ 3 _ ⟨#[_,_,_,_,_,_,_,_,_,_,_,_,_,_,_,_,_,_,_,_,_,_,_,_,_,_,_], []⟩ W2
   refine .on 9 rfl rfl fun K hK => ?_
   go_simp
   refine ⟨trivial, (fun h => by cases h), ?_⟩
   refine (CallsIn.inRound l1 (REP _)).mono ?_
   rintro e W3 ⟨rfl, hJ3, kx3⟩
   have bB3 := kx3.boxed x2 bB2
   have bY3 := kx3.boxed x1 bY2
   have kx13 := kx2.trans kx3
   refine hK _ _ ⟨bB3, bY3⟩ ?_
   clear hK K REP
   show Any _ _ _ _ _ _ 2 _ ⟨#[_,_,_,_,_,_,_,_,_,_,_,_,_,_,_,_,_,_,_,_,_,_,_,_,_,_,_], []⟩ W3
   refine .tp 10 (.bool false) ⟨bB3, bY3⟩ ?_
   refine .tp 11 (.bool false) ⟨bB3, bY3⟩ ?_
   refine Any.done (by kernel_rfl) ?_
   have cY3 := bY3.cell
   have EA := fun n => each_in hJ hY n _ _ W3 q (trimG R i) c hJ3 (Iq.below Bq kx13.below) Bq (by rw [List.length_append]; have := sepI_len ((i : Int) - (j : Int) - 1) 1048576 (by omega); omega) (by omega)
   gi_wp2_with (first | (refine ⟨trivial, (fun h => by cases h), ?_⟩; gi_at_call 189; refine (CallsIn.inRound l1 (EA _)).mono ?_; rintro e W4 ⟨rfl, hJ4, kx4⟩; have cB4 := (kx4.boxed x2 bB3).cell; have fB4 := (kx4.boxed x2 bB3).frozen))
   exact (RE W4 (kx13.trans kx4) (by rw [HD.out]; exact hJ4)).out
 case done =>
  rintro D ys W1 hD hys ⟨hJ1, bB, bY, bL, hB1⟩ hK
  gi_wp2
  refine ⟨by simp, .inl ⟨_, _, rfl, run_takeDeferred hK, ?_⟩⟩
  refine ⟨_, results_none rfl _ _ _, ⟨_, rfl⟩, _, rfl, ?_⟩
  rw [hys] at hJ1
  refine hJ.less _ _ _ _ (hJ.step _ _ W1 _ (some D) hJ1 (grownBy_putObj' W1 D _) (fun r e => by cases e; exact .inr ⟨by omega, _, hK, rfl⟩)) (fun b hb => .inl (.inl (.inl hb)))
 case stop =>
  rintro D c pre W1 _ _ h _
  exact h.elim
abbrev Owns (w : World) (base : Nat) (v : Value) (t : List Int) : Prop := w.ownsRow base 3 1 v t.length (t.map (.int .i64))
theorem push1 {w : World} {base : Nat} {v : Value} {xs : List Int} (h : Owns w base v xs) (hb : base <= w.heap.size) (hn : xs.length + 1 <= 8796093022208) (x : Int) :
  ∃ g cap w1, (Builtin.append_ #[41, 41] 41 #[v, .slice (some ⟨w.heap.size, 0, none⟩) 1 1]).run Tryz.prog (w.alloc (.cells #[.int .i64 x] 3)) = .ok (.slice (some ⟨g, 0, none⟩) (xs.length + 1) cap) w1 /\
   Owns w1 base (.slice (some ⟨g, 0, none⟩) (xs.length + 1) cap) (xs ++ [x]) /\ (w.alloc (.cells #[.int .i64 x] 3)).grownBy w1 v.ownBlock /\ (v.ownBlock = some g \/ g = w.heap.size + 1) := by
 obtain ⟨i0, hi, hz0, hz1, hz2⟩ := info_parts Tryz.info3
 obtain ⟨g, cap, w1, h1, h2, h3, h4, -⟩ := run_append_lies (P := Tryz.prog) (w.alloc (.cells #[.int .i64 x] 3)) 41 41 base 3 i0 (.int .i64 0) 1 8 Tryz.underlying41 hi hz0 hz1 hz2 rfl (by decide)
  v xs.length (xs.map (.int .i64)) (h.alloc _) ⟨w.heap.size, 0, none⟩ 1 1 [.int .i64 x] rfl (cell_one_new _ _ _) (by simp [Value.oneCell']) (by decide) (by unfold maxLen; omega) (by omega) (by simp; omega) (w.heap.size + 1) (by simp)
 refine ⟨g, cap, w1, h1, ?_, h3, h4⟩
 unfold Owns
 rw [List.map_append, List.length_append]
 exact h2
theorem wpListIn_append_run {F : Fence} {n : Nat} {P : Program} {w w' : World} {ops : Array Oper} {rest : List Oper} {o : Oper} {a : Act} {Q : Exit -> Act -> World -> Prop} (hgd : o.guard = none) (s x : Operand) (t : TypeId)
  (ho : o.op = .call { callee := .builtin .append, args := #[s, x], argTypes := #[t, t] }) {u y v : Value} (hs : a.eval s = u) (hx : a.eval x = y)
  (hrun : (Builtin.append_ #[t, t] o.type #[u, y]).run P w = .ok v w') (h : wpListIn F n P ops Q rest (a.put o.dst v) w') : wpListIn F n P ops Q (o :: rest) a w := by
 refine wpListIn_plain hgd fun K hK' => ?_
 unfold Oper.wpIn
 refine ⟨?_, ?_⟩
 ·simp [Oper.about, ho, resolve, Target.leads, Sem.run_pure]
 ·rw [Oper.semAt_plain F _ _ (by rw [ho]; intro c hc'; cases hc')]
  simp [execOp, ho, resolve, invoke, builtin, hs, hx, hrun, Result.andThen]
  exact hK' _ _ h
def Ia (w : World) (X : Nat -> Prop) (pre : List Int) (W : World) : Prop :=
 (∃ v, Boxed W w.heap.size 41 v /\ Owns W w.heap.size v pre /\ ∀ g, v.ownBlock = some g -> ¬ X g) /\ ¬ X w.heap.size /\ (∀ b, X b -> w.heap.size <= b /\ b < W.heap.size) /\ Below w.heap.size w W
theorem owns_cells {w : World} {base : Nat} {v : Value} {t : List Int} (h : Owns w base v t) {g : Nat} (hg : v.ownBlock = some g) : base <= g /\ ∃ cur, w.heap[g]? = some (.cells cur 3 (0, 0)) := by
 rcases h.2 with ⟨rfl, -⟩ | ⟨g', cap, cur, rfl, hb, hh, -⟩
 ·cases hg
 ·cases hg; exact ⟨hb, cur, hh⟩
theorem Ia_abx (w : World) (B : Nat) (hB : w.heap.size <= B) : Abx B (Ia w) := by
 refine ⟨?_, ?_, ?_, fun X s W b hs hb => (hs.2.2.1 b hb).2⟩
 ·rintro X s W W' row ⟨⟨v, hv, ho, hg⟩, hx, hX, hBl⟩ hgr hr
  refine ⟨⟨v, hv.kept hgr ?_, ho.kept hgr ?_, hg⟩, hx, fun b hb => ⟨(hX b hb).1, Nat.lt_of_lt_of_le (hX b hb).2 hgr.size⟩, hBl.grown hgr hBl.size ?_⟩
  ·intro e
   rcases hr _ e.symm with h | ⟨-, o, ho', hc⟩
   ·exact hx h
   ·rw [show W.heap[w.heap.size]? = _ from hv] at ho'; cases ho'; cases hc
  ·cases hvb : v.ownBlock with
   | none => exact .inl rfl
   | some g =>
    refine .inr fun e => ?_
    rcases hr g e.symm with h | ⟨-, o, ho', hc⟩
    ·exact hg g hvb h
    ·obtain ⟨-, cur, hcur⟩ := owns_cells ho hvb
     rw [hcur] at ho'; cases ho'; cases hc
  ·intro k e
   rcases hr k e with h | ⟨h, -⟩
   ·exact (hX k h).1
   ·omega
 ·rintro X s W o ⟨⟨v, hv, ho, hg⟩, hx, hX, hBl⟩
  have hlt := hv.lt
  refine ⟨⟨v, hv.alloc o, ho.alloc o, fun g hvb h => ?_⟩, (fun h => h.elim hx (fun e => by omega)), fun b hb => ?_, hBl.alloc hBl.size o⟩
  ·rcases h with h | h
   ·exact hg g hvb h
   ·obtain ⟨-, cur, hcur⟩ := owns_cells ho hvb
    have := (Array.getElem?_eq_some_iff.1 hcur).1
    omega
  ·rw [World.size_alloc]
   rcases hb with h | h
   ·have := hX b h; omega
   ·have := hBl.size; omega
 ·rintro X Y s W ⟨⟨v, hv, ho, hg⟩, hx, hX, hBl⟩ hY
  exact ⟨⟨v, hv, ho, fun g e h => hg g e (hY g h)⟩, fun h => hx (hY _ h), fun b hb => hX b (hY b hb), hBl⟩
theorem Ia_step {w W w1 : World} {X : Nat -> Prop} {pre : List Int} {x : Int} {v : Value} {g cap l : Nat} {r : Loop} (hv : Boxed W w.heap.size 41 v) (ho : Owns W w.heap.size v pre) (hg : ∀ g, v.ownBlock = some g -> ¬ X g) (hx : ¬ X w.heap.size) (hX : ∀ b, X b -> w.heap.size <= b /\ b < W.heap.size) (hBl : Below w.heap.size w W)
  (hl : W.heap[l]? = some (.loop r)) (h2 : Owns w1 w.heap.size (.slice (some ⟨g, 0, none⟩) (pre.length + 1) cap) (pre ++ [x])) (h3 : (W.alloc (.cells #[.int .i64 x] 3)).grownBy w1 v.ownBlock) (h4 : v.ownBlock = some g \/ g = W.heap.size + 1) :
  Boxed w1 w.heap.size 41 v /\ Hid (postx w.heap.size l (Ia w) X (pre ++ [x]) W .normal { tmps := #[], defers := [] } (w1.setCell ⟨w.heap.size, 0, none⟩ (.slice (some ⟨g, 0, none⟩) (pre.length + 1) cap))) := by
 obtain ⟨hv1, hv2, hr2, hk2, hb2⟩ := hv.appended (by decide) ho hBl.size (Nat.le_refl _) h2 h3
 have hold : ∀ b, b < W.heap.size -> b ≠ w.heap.size -> some b ≠ v.ownBlock -> (w1.setCell ⟨w.heap.size, 0, none⟩ (.slice (some ⟨g, 0, none⟩) (pre.length + 1) cap)).heap[b]? = W.heap[b]? := by
  intro b hb hne hnv
  rw [Deep.blk_setCell_other _ _ _ _ hne, h3.block b (by simp; omega) hnv]
  exact Below.heap_alloc W _ b hb
 refine ⟨hv1, ⟨hb2, fun b hb => hold b (hX b hb).2 (fun e => hx (e ▸ hb)) (fun e => hg b e.symm hb), fun k o _ hk hc => hk2.same k o hk hc⟩, ⟨⟨_, hv2, hr2, fun g' e h => ?_⟩, hx, fun b hb => ⟨(hX b hb).1, Nat.lt_of_lt_of_le (hX b hb).2 hb2.size⟩, hBl.trans hb2⟩, (hk2.same l _ hl rfl).trans hl.symm⟩
 cases e
 rcases h4 with h4 | rfl
 ·exact hg g h4 h
 ·have : W.heap.size + 1 < W.heap.size := (hX _ h).2
  omega
theorem appendSeq_in (n : Nat) (hn : 1 <= n) (gf : Nat) (lb : Array Value) (T : List Int) (w : World) (eg : ∀ args w, (callFunc gf args).run Tryz.prog w = .ok (.enter gf args) w)
  (hseq : Seqx (n - 1) Tryz.prog gf lb encI w.heap.size 8000000000000 (fun xs => xs = T) w) :
  CallsIn Fence.wide n Tryz.prog 184 #[.slice none 0 0, .func (.func gf) #[] lb] w fun e w' => ∃ v, e = .returned v /\ Owns w' w.heap.size v T /\ Below w.heap.size w w' := by
 refine callsIn_of_wp_marks Tryz.func184 rfl trivial ?_ rfl
 simp only [Tryz.ntmps184, frm, Nat.reduceAdd, Nat.reduceSub]
 gi_wp2
 have hb0 := Boxed.new w 41 (.slice none 0 0)
 have hB0 : Below w.heap.size w (w.alloc (.cells #[.slice none 0 0] 41)) := (Below.refl _ w).alloc (Nat.le_refl _) _
 have hs0 : (w.alloc (.cells #[.slice none 0 0] 41)).heap.size = w.heap.size + 1 := by simp
 generalize w.alloc (.cells #[.slice none 0 0] 41) = W0 at hb0 hB0 hs0 |-
 refine wpIn_rangeFuncx (gf := gf) (lb := lb) rfl eg (n0 := w.heap.size) (by omega) hseq hB0 (fun _ => rfl) (Ia w) (Ia_abx w _ (by omega))
  ⟨⟨_, hb0, World.ownsRow_nil _ _ 3 1, (fun g e => by cases e)⟩, id, (fun b h => h.elim), hB0⟩
  (fun x => { tmps := #[.slice none 0 0, .func (.func gf) #[] lb, .pointer (some ⟨w.heap.size, 0, none⟩), undef, .slice none 0 0, .int .i64 x, .func (.func gf) #[] lb, .int .i64 x, undef, undef, undef, undef, undef], defers := [] }) ?assign ?body ?done
 case assign =>
  intro m l x W K hK
  simp only [encI]
  gi_wp2
  exact hK
 case body =>
  rintro m l X pre x W hl ⟨r, hr⟩ ⟨⟨v, hv, ho, hg⟩, hx, hX, hBl⟩ hlt
  have hcl := hv.cell
  obtain ⟨g, cap, w1, hrun, h2, h3, h4⟩ := push1 ho hBl.size (by omega) x
  obtain ⟨hv1, HF⟩ := Ia_step hv ho hg hx hX hBl hr h2 h3 h4
  have hc1 := hv1.cell
  have hf1 := hv1.frozen
  obtain ⟨va, vk, vc, rfl⟩ := ownsRow_form ho
  clear hseq
  gi_wp2_with (first | (gi_at_builtin; refine wpListIn_append_run rfl _ _ 41 rfl rfl rfl hrun ?_))
  exact HF.out
 case done =>
  rintro D ys W hD rfl ⟨⟨v, hv, ho, -⟩, -, -, hBl⟩ hK
  obtain ⟨va, vk, vc, rfl⟩ := ownsRow_form ho
  have hcl := hv.cell
  gi_wp2
  refine ⟨by simp, .inl ⟨_, _, rfl, run_takeDeferred hK, ?_⟩⟩
  refine ⟨_, results_tmp rfl _ _ _, _, rfl, ?_, ?_⟩
  ·exact ownsRow_putObj ho _ hK rfl
  ·exact hBl.trans (belowK_b (w := w) (Nat.le_refl _) W D _ _ (by omega) hK rfl rfl)
theorem collect_in (n : Nat) (hn : 2 <= n) (gf : Nat) (lb : Array Value) (T : List Int) (w : World) (eg : ∀ args w, (callFunc gf args).run Tryz.prog w = .ok (.enter gf args) w)
  (hseq : Seqx (n - 1 - 1) Tryz.prog gf lb encI w.heap.size 8000000000000 (fun xs => xs = T) w) :
  CallsIn Fence.wide n Tryz.prog 159 #[.func (.func gf) #[] lb] w fun e w' => ∃ v, e = .returned v /\ Owns w' w.heap.size v T /\ Below w.heap.size w w' := by
 have A := appendSeq_in (n - 1) (by omega) gf lb T w eg hseq
 have h1 : 1 <= n := by omega
 clear hseq eg
 refine callsIn_of_wp Tryz.func159 rfl trivial ?_ rfl
 simp only [Tryz.ntmps159, frm, Nat.reduceAdd, Nat.reduceSub]
 gi_wp2_with (first | (refine ⟨trivial, ?_⟩; gi_at_call 184; refine A.mono ?_; rintro e w' ⟨v, rfl, ho, hb⟩))
 go_ret
 exact ⟨_, rfl, ho, hb⟩
theorem flowPoints_in (n : Nat) (p : Option Addr) (len cap : Nat) (w : World) :
  CallsIn Fence.wide n Tryz.prog 160 #[.slice p len cap] w fun e w' => e = .returned (.func (.func 185) #[] #[.pointer (some ⟨w.heap.size, 0, none⟩)]) /\ w' = w.alloc (.cells #[.slice p len cap] 73) := by
 refine callsIn_of_wp Tryz.func160 rfl trivial ?_ rfl
 simp only [Tryz.ntmps160, frm, Nat.reduceAdd, Nat.reduceSub]
 gi_wp2
 go_ret
 exact ⟨rfl, rfl⟩
def Sized (R : List Row) : Prop := R.length <= 1048576 /\ ∀ i, (tAt R i).length <= 1048576
theorem dropF_le (t : List Int) : (dropF t).length <= t.length := by
 unfold dropF
 exact (List.dropWhile_suffix _).length_le
theorem trimF_le (f b : Bool) (t : List Int) : (trimF f b t).length <= t.length := by
 have h1 : ∀ u : List Int, (dropB u).length <= u.length := fun u => by
  unfold dropB
  rw [List.length_reverse]
  have := (List.dropWhile_suffix (l := u.reverse) blankP).length_le
  simpa using this
 have h2 := dropF_le t
 unfold trimF
 cases f <;> cases b <;> simp only [Bool.false_eq_true, if_false, if_true]
 ·exact Nat.le_refl _
 ·exact h1 t
 ·exact h2
 ·exact Nat.le_trans (h1 _) h2
def flowT (R : List Row) : List Int := (joinT sepFl (trimG R) (told (tellF R) R.length)).1
theorem Flow_any (p : Option Addr) (R : List Row) (cap : Nat) (w : World) (hS : Sized R) (hM : Mt w p R) :
  Calls Tryz.prog 118 #[.slice p R.length cap] w fun e w' => ∃ v, e = .returned v /\ Owns w' w.heap.size v (flowT R) /\ Below w.heap.size w w' := by
 have hB1 : Below w.heap.size w (w.alloc (.cells #[.slice p R.length cap] 73)) := (Below.refl _ w).alloc (Nat.le_refl _) _
 have C := collect_in 9 (by decide) 185 #[.pointer (some ⟨w.heap.size, 0, none⟩)] (flowT R) (w.alloc (.cells #[.slice p R.length cap] 73)) (enters_of Tryz.func185 (by kernel_rfl) rfl) (by
  intro l J X W hW hl hJ hY h0
  have hM2 : MtB (w.alloc (.cells #[.slice p R.length cap] 73)).heap.size W p R := ((hM.on hB1).b).on hW
  exact flow1_in 7 (by decide) _ 8000000000000 cap w.heap.size l p R hS.1 (fun i => Nat.le_trans (trimF_le _ _ _) (hS.2 i)) (by decide) J X W hl hW.size hJ hY ((hW.cell (p := ⟨w.heap.size, 0, none⟩) (by simp)).trans (Boxed.new w 73 (.slice p R.length cap)).cell) hM2 h0)
 have C' := (callsIn_wide (n := 9)).1 C
 have FP := (callsIn_wide (n := 9)).1 (flowPoints_in 9 p R.length cap w)
 have hs : (w.alloc (.cells #[.slice p R.length cap] 73)).heap.size = w.heap.size + 1 := by simp
 rw [hs] at C'
 clear C hM hS
 generalize flowT R = T at C' |-
 go_enter Tryz.func118, Tryz.ntmps118
 go_wp2_with (first | (go_at_call 160; refine FP.mono ?_; rintro e w' ⟨rfl, rfl⟩) | (go_at_call 159; refine C'.mono ?_; rintro e w' ⟨v, rfl, ho, hb⟩))
 go_ret
 exact ⟨_, rfl, ownsRow_mono ho (by omega), hB1.trans (hb.mono (by omega))⟩
end Go.Proofs.YtipbhdhiklmieaaGreatDoor.P8
namespace Go.Proofs.YtipbhdhiklmieaaGreatDoor
open Go.RowKit Go.Shelf
open P8 (wpListIn_append_run)
attribute [local go_sem] Oper.semAt_some
def Sw (V : World) (wb : Nat) (w' : World) : Prop := w'.heap[wb]? = V.heap[wb]?
theorem Sw.cell {V w' : World} {wb o : Nat} {v : Value} (h : Sw V wb w') (hc : V.cell? ⟨wb, o, none⟩ = some v) : w'.cell? ⟨wb, o, none⟩ = some v := (World.cell?_of_block (a := ⟨wb, o, none⟩) h).trans hc
theorem Sw.drew (V : World) (wb : Nat) : Sw V wb V.drew := rfl
theorem Sw.set {V w' : World} {wb g o : Nat} (h : Sw V wb w') (hg : wb ≠ g) (v : Value) : Sw V wb (w'.setCell ⟨g, o, none⟩ v) := (Below.heap_setCell _ _ _ _ hg).trans h
section
variable {w : World} {wb : Nat} {E : Env} {s : St} {ov tv : Value} {O : Orc} {Tb : World -> Prop} {l : Lv} {r : List Lv}
theorem Kw.drew {V : World} (h : Kw w V wb E s ov tv) : Kw w V.drew wb E s ov tv := h.on ((Below.refl _ V).drew)
theorem entry_any (LW : Low O Tb) (BG : Begs O Tb wb E) (h : Wk w wb E s ov tv) (hs : Smx s) (hf : Fine E) (hp : Okp E s.p) (hop : s.op = l :: r) (ht : Tb w) (h1 : 0 < wb) :
  Calls Tryz.prog 74 #[(.pointer (some ⟨wb, 0, none⟩))] w fun en w' => Post wb E w (entW O E.L E.n E.d E.b s l) en w' := by
 obtain ⟨g, cap, rfl, hgw0, -⟩ := h.top hop
 obtain ⟨ta, tc, rfl, htl, htc⟩ := own_len h.to
 refine (callsIn_wide (n := 9)).1 ?_
 have hrl := hs.sml.rl hop
 have hwl := h.lt
 have HGW : Hid (wb ≠ g) := by show wb ≠ g; omega
 clear hgw0 htl htc
 have GO := fun m => (callsIn_wide (n := m)).2 (goOn_any LW.c LW.l h hf hp)
 refine callsIn_of_wp Tryz.func74 rfl trivial ?_ rfl
 simp only [Tryz.ntmps74, frm, Nat.reduceAdd, Nat.reduceSub]
 unfold entW
 cases hg : gonW O E.L E.n s.p with
 | error c =>
  have h0 : c ≠ 0 := gonW_ne hg
  have e1 : (c == 0) = false := by rw [beq_eq_false_iff_ne]; exact h0
  have e2 : (c != 0) = true := by simp [h0]
  rw [hg] at GO
  dsimp only at GO |-
  clear h BG hg
  gi_wp2
  first | refine tr2 ?_ | refine tr1 ?_
  gi_at_call 119
  refine (GO _).mono ?_
  rintro en V1 ⟨hk, rfl, -⟩
  clear GO
  gi_wp2
  go_ret
  exact ⟨hk, rfl⟩
 | ok q =>
  obtain ⟨hq1, hq2, hq3⟩ := gonW_goes hp.okL hg
  have hqo := hq1.okp
  have hqk := hqo.lek hf
  rw [hg] at GO
  dsimp only at GO |-
  have hsq : Smx { s with p := q } := ⟨hs.to, hs.op, hs.ta, hs.la⟩
  have hsq1 : Sml { s with p := q.plus 1 } := hs.sml.at _
  clear hg
  cases hst : staW E.L q l.cl with
  | true =>
   rw [if_pos rfl]
   clear BG
   gi_wp2
   first | refine tr2 ?_ | refine tr1 ?_
   gi_at_call 119
   refine (GO _).mono ?_
   clear GO
   rintro en V1 ⟨hk1, rfl, hw1⟩
   have kw1 : Kw w V1 wb E { s with p := q } (.slice (some ⟨g, 0, none⟩) (r.length + 1) cap) (.slice ta s.to.length tc) := ⟨hk1, hw1⟩
   have TP := fun m => (callsIn_wide (n := m)).2 (top_any (l := l) hw1 hrl)
   gi_wp2
   first | refine tr2 ?_ | refine tr1 ?_
   gi_at_call 73
   refine (TP _).mono ?_
   clear TP
   rintro en V2 ⟨rfl, hB2⟩
   have kw2 := kw1.on hB2
   have HKW : Hid _ := kw2
   obtain ⟨c4, c5, c7, c8, c9⟩ := kw2.cells
   obtain ⟨t0, t1, t2, t3, t4, t5, t6⟩ := Wk.tops (l := l) (r := r) kw2.w hop
   have SB := fun m => (callsIn_wide (n := m)).2 (stands_any kw2.w.drew hf hqo l.cl)
   rw [hst] at SB
   dsimp only at c4 c5
   clear kw1 kw2 hw1 hk1
   gi_wp2
   refine region_pickN (Sq V2) (by kernel_rfl) ?_
   show Any _ _ _ _ _ _ 11 _ ⟨#[_,_,_,_,_,_,_,_,_,_,_,_,_,_,_,_,_,_,_,_,_,_,_,_,_,_,_,_,_,_,_,_,_,_,_,_,_,_,_,_,_,_,_,_,_,_,_,_,_,_,_,_,_,_,_,_,_,_,_,_,_,_,_,_,_,_,_,_,_,_,_,_,_,_,_,_,_,_,_,_,_,_,_,_], []⟩ V2.drew
   refine .tp 0 (.pointer (some ⟨wb, 0, none⟩)) (Sq.drew V2) ?_
   refine .tp 1 (.pointer (some ⟨wb, 0, none⟩)) (Sq.drew V2) ?_
   refine .tp 2 (.pointer (some ⟨wb, 0, none⟩)) (Sq.drew V2) ?_
   refine .tp 3 (.pointer (some ⟨wb, 4, none⟩)) (Sq.drew V2) ?_
   refine .tl 4 (.agg #[.int .i64 (q.i : Nat), .int .i64 (q.k : Nat)]) rfl (fun w hw => by have a1 := hw.cell c4; have a2 := hw.cell c5; go_simp) (Sq.drew V2) ?_
   refine .tp 5 (.pointer (some ⟨g, r.length * 7, none⟩)) (Sq.drew V2) ?_
   show Any _ _ _ _ _ _ 5 _ ⟨#[_,_,_,_,_,_,_,_,_,_,_,_,_,_,_,_,_,_,_,_,_,_,_,_,_,_,_,_,_,_,_,_,_,_,_,_,_,_,_,_,_,_,_,_,_,_,_,_,_,_,_,_,_,_,_,_,_,_,_,_,_,_,_,_,_,_,_,_,_,_,_,_,_,_,_,_,_,_,_,_,_,_,_,_], []⟩ _
   refine .tp 6 (.pointer (some ⟨g, r.length * 7, none⟩)) (Sq.drew V2) ?_
   refine .tp 7 (.pointer (some ⟨g, r.length * 7, none⟩)) (Sq.drew V2) ?_
   refine .tl 8 (.int .i64 l.cl) rfl (fun w hw => by have a1 := hw.cell t0; go_simp) (Sq.drew V2) ?_
   refine .on 9 rfl rfl fun K hK => ?_
   go_simp
   first | refine tr2 ?_ | refine tr1 ?_
   refine (SB _).mono ?_
   clear SB
   rintro en V3 ⟨rfl, hB3⟩
   have B3 := ((Below.refl _ V2).drew).trans (hB3.mono (Nat.le_refl _))
   refine hK _ _ (Sq.of B3) ?_
   clear hK K
   show Any _ _ _ _ _ _ 1 _ ⟨#[_,_,_,_,_,_,_,_,_,_,_,_,_,_,_,_,_,_,_,_,_,_,_,_,_,_,_,_,_,_,_,_,_,_,_,_,_,_,_,_,_,_,_,_,_,_,_,_,_,_,_,_,_,_,_,_,_,_,_,_,_,_,_,_,_,_,_,_,_,_,_,_,_,_,_,_,_,_,_,_,_,_,_,_], []⟩ V3
   refine .tp 10 (.bool true) (Sq.of B3) ?_
   refine Any.done (by kernel_rfl) ?_
   rename_i Kb hKb
   refine hKb _ _ ?_
   clear hKb
   have kw3 := HKW.out.on B3
   clear c4 c5 c7 c8 c9 t0 t1 t2 t3 t4 t5 t6 HKW hB2 hB3 B3
   obtain ⟨x4, x5, x7, x8, x9⟩ := kw3.cells
   have kw4 := kw3.setK
   have CC := fun m => (callsIn_wide (n := m)).2 (close_any (l := l) (r := r) kw4.w hsq1 hop)
   dsimp only [Pl.plus] at CC kw4 x5 x4
   have HK4 : Hid _ := kw4.k
   clear kw3 kw4
   gi_wp2
   first | refine tr2 ?_ | refine tr1 ?_
   gi_at_call 77
   refine (CC _).mono ?_
   clear CC
   rintro en V5 ⟨⟨v, rfl⟩, hk5, hw5⟩
   gi_wp2
   go_ret
   exact ⟨HK4.out.trans hk5, rfl, hw5⟩
  | false =>
   rw [if_neg (by decide)]
   cases hal : aloW O E.L q 63 with
   | true =>
    rw [if_pos rfl]
    obtain ⟨RR, hRR⟩ : ∃ RR, askW O E.L E.n E.d E.b { s with p := q } l = RR := ⟨_, rfl⟩
    rw [hRR]
    have HRR : Hid (askW O E.L E.n E.d E.b { s with p := q } l = RR) := hRR
    clear hRR
    gi_wp2
    first | refine tr2 ?_ | refine tr1 ?_
    gi_at_call 119
    refine (GO _).mono ?_
    clear GO
    rintro en V1 ⟨hk1, rfl, hw1⟩
    have kw1 : Kw w V1 wb E { s with p := q } (.slice (some ⟨g, 0, none⟩) (r.length + 1) cap) (.slice ta s.to.length tc) := ⟨hk1, hw1⟩
    have TP := fun m => (callsIn_wide (n := m)).2 (top_any (l := l) hw1 hrl)
    gi_wp2
    first | refine tr2 ?_ | refine tr1 ?_
    gi_at_call 73
    refine (TP _).mono ?_
    clear TP
    rintro en V2 ⟨rfl, hB2⟩
    have kw2 := kw1.on hB2
    have HKW : Hid _ := kw2
    obtain ⟨c4, c5, c7, c8, c9⟩ := kw2.cells
    obtain ⟨t0, t1, t2, t3, t4, t5, t6⟩ := Wk.tops (l := l) (r := r) kw2.w hop
    have SB := fun m => (callsIn_wide (n := m)).2 (stands_any kw2.w.drew hf hqo l.cl)
    rw [hst] at SB
    dsimp only at c4 c5
    clear kw1 kw2 hw1 hk1
    gi_wp2
    refine region_pickN (Sq V2) (by kernel_rfl) ?_
    show Any _ _ _ _ _ _ 11 _ ⟨#[_,_,_,_,_,_,_,_,_,_,_,_,_,_,_,_,_,_,_,_,_,_,_,_,_,_,_,_,_,_,_,_,_,_,_,_,_,_,_,_,_,_,_,_,_,_,_,_,_,_,_,_,_,_,_,_,_,_,_,_,_,_,_,_,_,_,_,_,_,_,_,_,_,_,_,_,_,_,_,_,_,_,_,_], []⟩ V2.drew
    refine .tp 0 (.pointer (some ⟨wb, 0, none⟩)) (Sq.drew V2) ?_
    refine .tp 1 (.pointer (some ⟨wb, 0, none⟩)) (Sq.drew V2) ?_
    refine .tp 2 (.pointer (some ⟨wb, 0, none⟩)) (Sq.drew V2) ?_
    refine .tp 3 (.pointer (some ⟨wb, 4, none⟩)) (Sq.drew V2) ?_
    refine .tl 4 (.agg #[.int .i64 (q.i : Nat), .int .i64 (q.k : Nat)]) rfl (fun w hw => by have a1 := hw.cell c4; have a2 := hw.cell c5; go_simp) (Sq.drew V2) ?_
    refine .tp 5 (.pointer (some ⟨g, r.length * 7, none⟩)) (Sq.drew V2) ?_
    show Any _ _ _ _ _ _ 5 _ ⟨#[_,_,_,_,_,_,_,_,_,_,_,_,_,_,_,_,_,_,_,_,_,_,_,_,_,_,_,_,_,_,_,_,_,_,_,_,_,_,_,_,_,_,_,_,_,_,_,_,_,_,_,_,_,_,_,_,_,_,_,_,_,_,_,_,_,_,_,_,_,_,_,_,_,_,_,_,_,_,_,_,_,_,_,_], []⟩ _
    refine .tp 6 (.pointer (some ⟨g, r.length * 7, none⟩)) (Sq.drew V2) ?_
    refine .tp 7 (.pointer (some ⟨g, r.length * 7, none⟩)) (Sq.drew V2) ?_
    refine .tl 8 (.int .i64 l.cl) rfl (fun w hw => by have a1 := hw.cell t0; go_simp) (Sq.drew V2) ?_
    refine .on 9 rfl rfl fun K hK => ?_
    go_simp
    first | refine tr2 ?_ | refine tr1 ?_
    refine (SB _).mono ?_
    clear SB
    rintro en V3 ⟨rfl, hB3⟩
    have B3 := ((Below.refl _ V2).drew).trans (hB3.mono (Nat.le_refl _))
    refine hK _ _ (Sq.of B3) ?_
    clear hK K
    show Any _ _ _ _ _ _ 1 _ ⟨#[_,_,_,_,_,_,_,_,_,_,_,_,_,_,_,_,_,_,_,_,_,_,_,_,_,_,_,_,_,_,_,_,_,_,_,_,_,_,_,_,_,_,_,_,_,_,_,_,_,_,_,_,_,_,_,_,_,_,_,_,_,_,_,_,_,_,_,_,_,_,_,_,_,_,_,_,_,_,_,_,_,_,_,_], []⟩ V3
    refine .tp 10 (.bool false) (Sq.of B3) ?_
    refine Any.done (by kernel_rfl) ?_
    rename_i Kb hKb
    refine hKb _ _ ?_
    clear hKb
    have kw3 := HKW.out.on B3
    clear c4 c5 c7 c8 c9 t0 t1 t2 t3 t4 t5 t6 HKW hB2 hB3 B3
    obtain ⟨x4, x5, x7, x8, x9⟩ := kw3.cells
    dsimp only at x4 x5
    have AC := fun m => (callsIn_wide (n := m)).2 (alone_any LW.c kw3.w hf hqo 63)
    rw [hal] at AC
    have HK3 : Hid _ := kw3
    clear kw3
    gi_wp2
    first | refine tr2 ?_ | refine tr1 ?_
    gi_at_call 120
    refine (AC _).mono ?_
    clear AC
    rintro en V4 ⟨rfl, hB4⟩
    have kw4 := HK3.out.on hB4
    have QC := fun m => (callsIn_wide (n := m)).2 (question_any LW BG kw4.w hsq hf hqo hq3 hop (LW.keep ht kw4.k (by omega) h1) h1)
    rw [HRR.out] at QC
    have HK4 : Hid _ := kw4.k
    clear kw4
    gi_wp2
    first | refine tr2 ?_ | refine tr1 ?_
    gi_at_call 121
    refine (QC _).mono ?_
    clear QC
    rintro en V5 hpo
    have HP := hpo.pre HK4.out
    obtain ⟨e5, rfl⟩ := hpo.ret
    clear hpo
    gi_wp2
    go_ret
    exact HP
   | false =>
    rw [if_neg (by decide)]
    by_cases h125 : l.cl = 125
    ·rw [if_pos h125]
     have H125 : Hid (l.cl = 125) := h125
     clear h125
     have hS : (topS { s with p := q } fun l => { l with nx := 2 }) = { s with p := q, op := { l with nx := 2 } :: r } := by unfold topS; simp only [hop]
     rw [hS]
     clear hS
     have hss : Sml { s with p := q, op := { l with nx := 2 } :: r } := (hs.setTop (l' := { l with nx := 2 }) hop rfl q).sml
     obtain ⟨RR, hRR⟩ : ∃ RR, begW O E.L E.n E.d E.b { s with p := q, op := { l with nx := 2 } :: r } = RR := ⟨_, rfl⟩
     rw [hRR]
     have HRR : Hid (begW O E.L E.n E.d E.b { s with p := q, op := { l with nx := 2 } :: r } = RR) := hRR
     clear hRR
     gi_wp2
     first | refine tr2 ?_ | refine tr1 ?_
     gi_at_call 119
     refine (GO _).mono ?_
     clear GO
     rintro en V1 ⟨hk1, rfl, hw1⟩
     have kw1 : Kw w V1 wb E { s with p := q } (.slice (some ⟨g, 0, none⟩) (r.length + 1) cap) (.slice ta s.to.length tc) := ⟨hk1, hw1⟩
     have TP := fun m => (callsIn_wide (n := m)).2 (top_any (l := l) hw1 hrl)
     gi_wp2
     first | refine tr2 ?_ | refine tr1 ?_
     gi_at_call 73
     refine (TP _).mono ?_
     clear TP
     rintro en V2 ⟨rfl, hB2⟩
     have kw2 := kw1.on hB2
     have HKW : Hid _ := kw2
     obtain ⟨c4, c5, c7, c8, c9⟩ := kw2.cells
     obtain ⟨t0, t1, t2, t3, t4, t5, t6⟩ := Wk.tops (l := l) (r := r) kw2.w hop
     have SB := fun m => (callsIn_wide (n := m)).2 (stands_any kw2.w.drew hf hqo l.cl)
     rw [hst] at SB
     dsimp only at c4 c5
     clear kw1 kw2 hw1 hk1
     gi_wp2
     refine region_pickN (Sq V2) (by kernel_rfl) ?_
     show Any _ _ _ _ _ _ 11 _ ⟨#[_,_,_,_,_,_,_,_,_,_,_,_,_,_,_,_,_,_,_,_,_,_,_,_,_,_,_,_,_,_,_,_,_,_,_,_,_,_,_,_,_,_,_,_,_,_,_,_,_,_,_,_,_,_,_,_,_,_,_,_,_,_,_,_,_,_,_,_,_,_,_,_,_,_,_,_,_,_,_,_,_,_,_,_], []⟩ V2.drew
     refine .tp 0 (.pointer (some ⟨wb, 0, none⟩)) (Sq.drew V2) ?_
     refine .tp 1 (.pointer (some ⟨wb, 0, none⟩)) (Sq.drew V2) ?_
     refine .tp 2 (.pointer (some ⟨wb, 0, none⟩)) (Sq.drew V2) ?_
     refine .tp 3 (.pointer (some ⟨wb, 4, none⟩)) (Sq.drew V2) ?_
     refine .tl 4 (.agg #[.int .i64 (q.i : Nat), .int .i64 (q.k : Nat)]) rfl (fun w hw => by have a1 := hw.cell c4; have a2 := hw.cell c5; go_simp) (Sq.drew V2) ?_
     refine .tp 5 (.pointer (some ⟨g, r.length * 7, none⟩)) (Sq.drew V2) ?_
     show Any _ _ _ _ _ _ 5 _ ⟨#[_,_,_,_,_,_,_,_,_,_,_,_,_,_,_,_,_,_,_,_,_,_,_,_,_,_,_,_,_,_,_,_,_,_,_,_,_,_,_,_,_,_,_,_,_,_,_,_,_,_,_,_,_,_,_,_,_,_,_,_,_,_,_,_,_,_,_,_,_,_,_,_,_,_,_,_,_,_,_,_,_,_,_,_], []⟩ _
     refine .tp 6 (.pointer (some ⟨g, r.length * 7, none⟩)) (Sq.drew V2) ?_
     refine .tp 7 (.pointer (some ⟨g, r.length * 7, none⟩)) (Sq.drew V2) ?_
     refine .tl 8 (.int .i64 l.cl) rfl (fun w hw => by have a1 := hw.cell t0; go_simp) (Sq.drew V2) ?_
     refine .on 9 rfl rfl fun K hK => ?_
     go_simp
     first | refine tr2 ?_ | refine tr1 ?_
     refine (SB _).mono ?_
     clear SB
     rintro en V3 ⟨rfl, hB3⟩
     have B3 := ((Below.refl _ V2).drew).trans (hB3.mono (Nat.le_refl _))
     refine hK _ _ (Sq.of B3) ?_
     clear hK K
     show Any _ _ _ _ _ _ 1 _ ⟨#[_,_,_,_,_,_,_,_,_,_,_,_,_,_,_,_,_,_,_,_,_,_,_,_,_,_,_,_,_,_,_,_,_,_,_,_,_,_,_,_,_,_,_,_,_,_,_,_,_,_,_,_,_,_,_,_,_,_,_,_,_,_,_,_,_,_,_,_,_,_,_,_,_,_,_,_,_,_,_,_,_,_,_,_], []⟩ V3
     refine .tp 10 (.bool false) (Sq.of B3) ?_
     refine Any.done (by kernel_rfl) ?_
     rename_i Kb hKb
     refine hKb _ _ ?_
     clear hKb
     have kw3 := HKW.out.on B3
     clear c4 c5 c7 c8 c9 t0 t1 t2 t3 t4 t5 t6 HKW hB2 hB3 B3
     obtain ⟨x4, x5, x7, x8, x9⟩ := kw3.cells
     dsimp only at x4 x5
     have AC := fun m => (callsIn_wide (n := m)).2 (alone_any LW.c kw3.w hf hqo 63)
     rw [hal] at AC
     have HK3 : Hid _ := kw3
     clear kw3
     gi_wp2
     first | refine tr2 ?_ | refine tr1 ?_
     gi_at_call 120
     refine (AC _).mono ?_
     clear AC
     rintro en V4 ⟨rfl, hB4⟩
     have kw4 := HK3.out.on hB4
     obtain ⟨u0, u1, u2, u3, u4, u5, u6⟩ := Wk.tops (l := l) (r := r) kw4.w hop
     have f2 := u6 (r.length * 7 + 2)
     rw [H125.out] at u0
     have kw5 := Kw.setL (l := l) (l' := { l with nx := 2 }) (r := r) (j := 2) (x := .int .u8 2) kw4 hop (by decide) rfl
     have BC := fun m => (callsIn_wide (n := m)).2 (BG _ _ _ _ (LW.keep ht kw5.k (by omega) h1) kw5.w hss hqo)
     rw [HRR.out] at BC
     have HK5 : Hid _ := kw5.k
     clear kw4 kw5 u6
     gi_wp2
     first | refine tr2 ?_ | refine tr1 ?_
     gi_at_call 40
     refine (BC _).mono ?_
     clear BC
     rintro en V5 hpo
     have HP := hpo.pre HK5.out
     obtain ⟨e5, rfl⟩ := hpo.ret
     clear hpo
     gi_wp2
     go_ret
     exact HP
    ·rw [if_neg h125]
     have E125 : Hid ((l.cl == 125) = false) := by show (l.cl == 125) = false; rw [beq_eq_false_iff_ne]; exact h125
     clear h125
     have hS : ({ topS { s with p := q } (fun l => { l with nx := 1, bi := q.i, bk := q.k, ho := s.to.length }) with to := s.to ++ [ev0] } : St) = { s with p := q, op := { l with nx := 1, bi := q.i, bk := q.k, ho := s.to.length } :: r, to := s.to ++ [ev0] } := by unfold topS; simp only [hop]
     rw [hS]
     clear hS
     have hs5 := hs.setTop (l' := { l with nx := 1, bi := q.i, bk := q.k, ho := s.to.length }) hop rfl q
     have hss : Sml { s with p := q, op := { l with nx := 1, bi := q.i, bk := q.k, ho := s.to.length } :: r, to := s.to ++ [ev0] } := ⟨by have := hs.to; simp; omega, by have := hs5.op; simp at this |-; omega, by have := hs.ta; show s.ta <= _; omega, fun y hy => by have := hs5.la y hy; omega⟩
     obtain ⟨RR, hRR⟩ : ∃ RR, begW O E.L E.n E.d E.b { s with p := q, op := { l with nx := 1, bi := q.i, bk := q.k, ho := s.to.length } :: r, to := s.to ++ [ev0] } = RR := ⟨_, rfl⟩
     rw [hRR]
     have HRR : Hid (begW O E.L E.n E.d E.b { s with p := q, op := { l with nx := 1, bi := q.i, bk := q.k, ho := s.to.length } :: r, to := s.to ++ [ev0] } = RR) := hRR
     clear hRR
     gi_wp2
     first | refine tr2 ?_ | refine tr1 ?_
     gi_at_call 119
     refine (GO _).mono ?_
     clear GO
     rintro en V1 ⟨hk1, rfl, hw1⟩
     have kw1 : Kw w V1 wb E { s with p := q } (.slice (some ⟨g, 0, none⟩) (r.length + 1) cap) (.slice ta s.to.length tc) := ⟨hk1, hw1⟩
     have TP := fun m => (callsIn_wide (n := m)).2 (top_any (l := l) hw1 hrl)
     gi_wp2
     first | refine tr2 ?_ | refine tr1 ?_
     gi_at_call 73
     refine (TP _).mono ?_
     clear TP
     rintro en V2 ⟨rfl, hB2⟩
     have kw2 := kw1.on hB2
     have HKW : Hid _ := kw2
     obtain ⟨c4, c5, c7, c8, c9⟩ := kw2.cells
     obtain ⟨t0, t1, t2, t3, t4, t5, t6⟩ := Wk.tops (l := l) (r := r) kw2.w hop
     have SB := fun m => (callsIn_wide (n := m)).2 (stands_any kw2.w.drew hf hqo l.cl)
     rw [hst] at SB
     dsimp only at c4 c5
     clear kw1 kw2 hw1 hk1
     gi_wp2
     refine region_pickN (Sq V2) (by kernel_rfl) ?_
     show Any _ _ _ _ _ _ 11 _ ⟨#[_,_,_,_,_,_,_,_,_,_,_,_,_,_,_,_,_,_,_,_,_,_,_,_,_,_,_,_,_,_,_,_,_,_,_,_,_,_,_,_,_,_,_,_,_,_,_,_,_,_,_,_,_,_,_,_,_,_,_,_,_,_,_,_,_,_,_,_,_,_,_,_,_,_,_,_,_,_,_,_,_,_,_,_], []⟩ V2.drew
     refine .tp 0 (.pointer (some ⟨wb, 0, none⟩)) (Sq.drew V2) ?_
     refine .tp 1 (.pointer (some ⟨wb, 0, none⟩)) (Sq.drew V2) ?_
     refine .tp 2 (.pointer (some ⟨wb, 0, none⟩)) (Sq.drew V2) ?_
     refine .tp 3 (.pointer (some ⟨wb, 4, none⟩)) (Sq.drew V2) ?_
     refine .tl 4 (.agg #[.int .i64 (q.i : Nat), .int .i64 (q.k : Nat)]) rfl (fun w hw => by have a1 := hw.cell c4; have a2 := hw.cell c5; go_simp) (Sq.drew V2) ?_
     refine .tp 5 (.pointer (some ⟨g, r.length * 7, none⟩)) (Sq.drew V2) ?_
     show Any _ _ _ _ _ _ 5 _ ⟨#[_,_,_,_,_,_,_,_,_,_,_,_,_,_,_,_,_,_,_,_,_,_,_,_,_,_,_,_,_,_,_,_,_,_,_,_,_,_,_,_,_,_,_,_,_,_,_,_,_,_,_,_,_,_,_,_,_,_,_,_,_,_,_,_,_,_,_,_,_,_,_,_,_,_,_,_,_,_,_,_,_,_,_,_], []⟩ _
     refine .tp 6 (.pointer (some ⟨g, r.length * 7, none⟩)) (Sq.drew V2) ?_
     refine .tp 7 (.pointer (some ⟨g, r.length * 7, none⟩)) (Sq.drew V2) ?_
     refine .tl 8 (.int .i64 l.cl) rfl (fun w hw => by have a1 := hw.cell t0; go_simp) (Sq.drew V2) ?_
     refine .on 9 rfl rfl fun K hK => ?_
     go_simp
     first | refine tr2 ?_ | refine tr1 ?_
     refine (SB _).mono ?_
     clear SB
     rintro en V3 ⟨rfl, hB3⟩
     have B3 := ((Below.refl _ V2).drew).trans (hB3.mono (Nat.le_refl _))
     refine hK _ _ (Sq.of B3) ?_
     clear hK K
     show Any _ _ _ _ _ _ 1 _ ⟨#[_,_,_,_,_,_,_,_,_,_,_,_,_,_,_,_,_,_,_,_,_,_,_,_,_,_,_,_,_,_,_,_,_,_,_,_,_,_,_,_,_,_,_,_,_,_,_,_,_,_,_,_,_,_,_,_,_,_,_,_,_,_,_,_,_,_,_,_,_,_,_,_,_,_,_,_,_,_,_,_,_,_,_,_], []⟩ V3
     refine .tp 10 (.bool false) (Sq.of B3) ?_
     refine Any.done (by kernel_rfl) ?_
     rename_i Kb hKb
     refine hKb _ _ ?_
     clear hKb
     have kw3 := HKW.out.on B3
     clear c4 c5 c7 c8 c9 t0 t1 t2 t3 t4 t5 t6 HKW hB2 hB3 B3
     obtain ⟨x4, x5, x7, x8, x9⟩ := kw3.cells
     dsimp only at x4 x5
     have AC := fun m => (callsIn_wide (n := m)).2 (alone_any LW.c kw3.w hf hqo 63)
     rw [hal] at AC
     have HK3 : Hid _ := kw3
     clear kw3
     gi_wp2
     first | refine tr2 ?_ | refine tr1 ?_
     gi_at_call 120
     refine (AC _).mono ?_
     clear AC x4 x5 x7 x8 x9
     rintro en V4 ⟨rfl, hB4⟩
     have kw4 := HK3.out.on hB4
     obtain ⟨x4, x5, x7, x8, x9⟩ := kw4.cells
     obtain ⟨u0, u1, u2, u3, u4, u5, u6⟩ := Wk.tops (l := l) (r := r) kw4.w hop
     have f2 := u6 (r.length * 7 + 2)
     have f3 := u6 (r.length * 7 + 3)
     have f4 := u6 (r.length * 7 + 3 + 1)
     have f5 := u6 (r.length * 7 + 5)
     have kd := kw4.drew
     have k1 := Kw.setL (l := l) (l' := { l with nx := 1 }) (r := r) (j := 2) (x := .int .u8 1) kd hop (by decide) rfl
     have k2 := Kw.setL (l := { l with nx := 1 }) (l' := { l with nx := 1, bi := q.i }) (r := r) (j := 3) (x := .int .i64 (q.i : Nat)) k1 rfl (by decide) rfl
     have k3 := Kw.setL (l := { l with nx := 1, bi := q.i }) (l' := { l with nx := 1, bi := q.i, bk := q.k }) (r := r) (j := 4) (x := .int .i64 (q.k : Nat)) k2 rfl (by decide) rfl
     have k4 := Kw.setL (l := { l with nx := 1, bi := q.i, bk := q.k }) (l' := { l with nx := 1, bi := q.i, bk := q.k, ho := s.to.length }) (r := r) (j := 5) (x := .int .i64 (s.to.length : Nat)) k3 rfl (by decide) rfl
     have HK5 : Hid (Kw w ((((V4.drew.setCell ⟨g, r.length * 7 + 2, none⟩ (.int .u8 1)).setCell ⟨g, r.length * 7 + 3, none⟩ (.int .i64 (q.i : Nat))).setCell ⟨g, r.length * 7 + 3 + 1, none⟩ (.int .i64 (q.k : Nat))).setCell ⟨g, r.length * 7 + 5, none⟩ (.int .i64 (s.to.length : Nat))) wb E { s with p := q, op := { l with nx := 1, bi := q.i, bk := q.k, ho := s.to.length } :: r } (.slice (some ⟨g, 0, none⟩) (r.length + 1) cap) (.slice ta s.to.length tc)) := k4
     clear kw4 kd k1 k2 k3 k4 u6
     have e125 := E125.out
     gi_wp2
     refine region_pickN (Sw V4 wb) (by kernel_rfl) ?_
     show Any _ _ _ _ _ _ 21 _ ⟨#[_,_,_,_,_,_,_,_,_,_,_,_,_,_,_,_,_,_,_,_,_,_,_,_,_,_,_,_,_,_,_,_,_,_,_,_,_,_,_,_,_,_,_,_,_,_,_,_,_,_,_,_,_,_,_,_,_,_,_,_,_,_,_,_,_,_,_,_,_,_,_,_,_,_,_,_,_,_,_,_,_,_,_,_], []⟩ V4.drew
     refine .tp 0 (.pointer (some ⟨g, r.length * 7, none⟩)) (Sw.drew V4 wb) ?_
     refine .tp 1 (.pointer (some ⟨g, r.length * 7, none⟩)) (Sw.drew V4 wb) ?_
     refine .tp 2 (.pointer (some ⟨g, r.length * 7, none⟩)) (Sw.drew V4 wb) ?_
     refine .tp 3 (.pointer (some ⟨wb, 0, none⟩)) (Sw.drew V4 wb) ?_
     refine .tp 4 (.pointer (some ⟨wb, 0, none⟩)) (Sw.drew V4 wb) ?_
     refine .tp 5 (.pointer (some ⟨wb, 4, none⟩)) (Sw.drew V4 wb) ?_
     show Any _ _ _ _ _ _ 15 _ ⟨#[_,_,_,_,_,_,_,_,_,_,_,_,_,_,_,_,_,_,_,_,_,_,_,_,_,_,_,_,_,_,_,_,_,_,_,_,_,_,_,_,_,_,_,_,_,_,_,_,_,_,_,_,_,_,_,_,_,_,_,_,_,_,_,_,_,_,_,_,_,_,_,_,_,_,_,_,_,_,_,_,_,_,_,_], []⟩ _
     refine .tl 6 (.agg #[.int .i64 (q.i : Nat), .int .i64 (q.k : Nat)]) rfl (fun w hw => by have a1 := hw.cell x4; have a2 := hw.cell x5; go_simp) (Sw.drew V4 wb) ?_
     refine .tp 7 (.pointer (some ⟨wb, 0, none⟩)) (Sw.drew V4 wb) ?_
     refine .tp 8 (.pointer (some ⟨wb, 0, none⟩)) (Sw.drew V4 wb) ?_
     refine .tp 9 (.pointer (some ⟨wb, 7, none⟩)) (Sw.drew V4 wb) ?_
     refine .tl 10 (.slice ta s.to.length tc) rfl (fun w hw => by have a1 := hw.cell x7; go_simp) (Sw.drew V4 wb) ?_
     refine .tp 11 (.int .i64 (s.to.length : Nat)) (Sw.drew V4 wb) ?_
     show Any _ _ _ _ _ _ 9 _ ⟨#[_,_,_,_,_,_,_,_,_,_,_,_,_,_,_,_,_,_,_,_,_,_,_,_,_,_,_,_,_,_,_,_,_,_,_,_,_,_,_,_,_,_,_,_,_,_,_,_,_,_,_,_,_,_,_,_,_,_,_,_,_,_,_,_,_,_,_,_,_,_,_,_,_,_,_,_,_,_,_,_,_,_,_,_], []⟩ _
     refine .tp 12 (.pointer (some ⟨g, r.length * 7, none⟩)) (Sw.drew V4 wb) ?_
     refine .tp 13 (.pointer (some ⟨g, r.length * 7 + 2, none⟩)) (Sw.drew V4 wb) ?_
     refine .on 14 rfl rfl fun K hK => ?_
     go_simp
     refine hK _ _ ((Sw.drew V4 wb).set HGW.out _) ?_
     clear hK K
     show Any _ _ _ _ _ _ 6 _ ⟨#[_,_,_,_,_,_,_,_,_,_,_,_,_,_,_,_,_,_,_,_,_,_,_,_,_,_,_,_,_,_,_,_,_,_,_,_,_,_,_,_,_,_,_,_,_,_,_,_,_,_,_,_,_,_,_,_,_,_,_,_,_,_,_,_,_,_,_,_,_,_,_,_,_,_,_,_,_,_,_,_,_,_,_,_], []⟩ (V4.drew.setCell ⟨g, r.length * 7 + 2, none⟩ (.int .u8 1))
     refine .tp 15 (.pointer (some ⟨g, r.length * 7, none⟩)) ((Sw.drew V4 wb).set HGW.out _) ?_
     refine .tp 16 (.pointer (some ⟨g, r.length * 7 + 3, none⟩)) ((Sw.drew V4 wb).set HGW.out _) ?_
     refine .on 17 rfl rfl fun K hK => ?_
     go_simp
     refine hK _ _ ((((Sw.drew V4 wb).set HGW.out _).set HGW.out _).set HGW.out _) ?_
     clear hK K
     show Any _ _ _ _ _ _ 3 _ ⟨#[_,_,_,_,_,_,_,_,_,_,_,_,_,_,_,_,_,_,_,_,_,_,_,_,_,_,_,_,_,_,_,_,_,_,_,_,_,_,_,_,_,_,_,_,_,_,_,_,_,_,_,_,_,_,_,_,_,_,_,_,_,_,_,_,_,_,_,_,_,_,_,_,_,_,_,_,_,_,_,_,_,_,_,_], []⟩ (((V4.drew.setCell ⟨g, r.length * 7 + 2, none⟩ (.int .u8 1)).setCell ⟨g, r.length * 7 + 3, none⟩ (.int .i64 (q.i : Nat))).setCell ⟨g, r.length * 7 + 3 + 1, none⟩ (.int .i64 (q.k : Nat)))
     refine .tp 18 (.pointer (some ⟨g, r.length * 7, none⟩)) ((((Sw.drew V4 wb).set HGW.out _).set HGW.out _).set HGW.out _) ?_
     refine .tp 19 (.pointer (some ⟨g, r.length * 7 + 5, none⟩)) ((((Sw.drew V4 wb).set HGW.out _).set HGW.out _).set HGW.out _) ?_
     refine .on 20 rfl rfl fun K hK => ?_
     go_simp
     refine hK _ _ (((((Sw.drew V4 wb).set HGW.out _).set HGW.out _).set HGW.out _).set HGW.out _) ?_
     clear hK K
     show Any _ _ _ _ _ _ 0 _ ⟨#[_,_,_,_,_,_,_,_,_,_,_,_,_,_,_,_,_,_,_,_,_,_,_,_,_,_,_,_,_,_,_,_,_,_,_,_,_,_,_,_,_,_,_,_,_,_,_,_,_,_,_,_,_,_,_,_,_,_,_,_,_,_,_,_,_,_,_,_,_,_,_,_,_,_,_,_,_,_,_,_,_,_,_,_], []⟩ ((((V4.drew.setCell ⟨g, r.length * 7 + 2, none⟩ (.int .u8 1)).setCell ⟨g, r.length * 7 + 3, none⟩ (.int .i64 (q.i : Nat))).setCell ⟨g, r.length * 7 + 3 + 1, none⟩ (.int .i64 (q.k : Nat))).setCell ⟨g, r.length * 7 + 5, none⟩ (.int .i64 (s.to.length : Nat)))
     refine Any.done (by kernel_rfl) ?_
     rename_i Kb hKb
     refine hKb _ _ ?_
     clear hKb
     have k5 := HK5.out
     generalize (((V4.drew.setCell ⟨g, r.length * 7 + 2, none⟩ (.int .u8 1)).setCell ⟨g, r.length * 7 + 3, none⟩ (.int .i64 (q.i : Nat))).setCell ⟨g, r.length * 7 + 3 + 1, none⟩ (.int .i64 (q.k : Nat))).setCell ⟨g, r.length * 7 + 5, none⟩ (.int .i64 (s.to.length : Nat)) = V5 at k5 |-
     obtain ⟨z4, z5, z7, z8, z9⟩ := k5.cells
     obtain ⟨g1, cap1, V6, hr6, f6, c6, kk6, wk6⟩ := told_push0 k5.w (by show s.to.length <= _; have := hs.to; omega) ev0
     simp only [Ev.c, ev0] at hr6
     have k7 := k5.kee kk6 wk6
     have BC := fun m => (callsIn_wide (n := m)).2 (BG _ _ _ _ (LW.keep ht k7.k (by omega) h1) k7.w hss hqo)
     rw [HRR.out] at BC
     have HK7 : Hid _ := k7.k
     clear k5 k7 kk6 wk6
     gi_wp2_with (first | (gi_at_builtin; refine wpListIn_append_run rfl _ _ 27 rfl rfl rfl hr6 ?_; clear hr6))
     first | refine tr2 ?_ | refine tr1 ?_
     gi_at_call 40
     refine (BC _).mono ?_
     clear BC
     rintro en V8 hpo
     have HP := hpo.pre HK7.out
     obtain ⟨e8, rfl⟩ := hpo.ret
     clear hpo
     gi_wp2
     go_ret
     exact HP
end
end Go.Proofs.YtipbhdhiklmieaaGreatDoor
