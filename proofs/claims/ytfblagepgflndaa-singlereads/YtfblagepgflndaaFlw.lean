/- flowPoints' iterator: it tells the code points of Flow's text, for every body. -/
import Derived.Test.YtfblagepgflndaaFld
set_option linter.unusedVariables false
set_option linter.unusedSimpArgs false
namespace Go.Proofs.Ytfblagepgflndaa
open Go.RowKit Go.Shelf
attribute [local go_sem] Oper.semAt_some

/-- The text of lines that are told one by one: the text so far, and the place of the last line. -/
def joinT (sep : Int → Nat → List Int) (g : Nat → List Int) (ys : List Nat) : List Int × Int := ys.foldl (fun s i => (s.1 ++ sep s.2 i ++ g i, (i : Int))) ([], -1)
theorem joinT_snoc (sep : Int → Nat → List Int) (g : Nat → List Int) (ys : List Nat) (i : Nat) : joinT sep g (ys ++ [i]) = ((joinT sep g ys).1 ++ sep (joinT sep g ys).2 i ++ g i, (i : Int)) := by
  unfold joinT
  rw [List.foldl_append]
  rfl
theorem joinT_last (sep : Int → Nat → List Int) (g : Nat → List Int) (ys : List Nat) : (ys = [] ∧ (joinT sep g ys).2 = -1) ∨ ∃ i, i ∈ ys ∧ (joinT sep g ys).2 = (i : Int) := by
  rcases List.eq_nil_or_concat ys with rfl | ⟨zs, i, rfl⟩
  · exact .inl ⟨rfl, rfl⟩
  · refine .inr ⟨i, by simp, ?_⟩
    rw [List.concat_eq_append, joinT_snoc]

def sepI (d : Int) : List Int := if d = 0 then [32] else List.replicate d.toNat 10
def sepFl (b : Int) (i : Nat) : List Int := if b < 0 then [] else sepI ((i : Int) - b - 1)

/-- The code points that a value of the kind runV stands for. -/
theorem rep_fold {n₀ N B l : Nat} {J : (Nat → Prop) → List Int → World → Prop} (hJ : Abx B J) (hY : Rounds n₀ N Try.prog l encI J) (n : Nat) (X : Nat → Prop) (pre : List Int) (W : World) (d : Int)
    (h0 : J X pre W) (hn : n₀ ≤ W.heap.size) (hk : pre.length + 1 + d.toNat ≤ N) (hk2 : d ≤ 1099511627776) :
    CallsIn Fence.wide n Try.prog 36 #[foldV d, .func (.yield l) #[] #[]] W fun e W' => e = .returned (.bool true) ∧ J X (pre ++ sepI d) W' ∧ Kx n₀ l X W W' := by
  by_cases h : d = 0
  · have := repeat_in hJ hY n X pre W 32 1 h0 hn (by simp; omega) (by omega)
    unfold foldV sepI
    rw [if_pos h, if_pos h]
    exact this
  · have := repeat_in hJ hY n X pre W 10 d h0 hn (by omega) hk2
    unfold foldV sepI
    rw [if_neg h, if_neg h]
    exact this

/-- Between two rounds of a loop over lines. -/
def Inl {R : List Row} {g : Nat → List Int} {E : Nat → Prop} (J : (Nat → Prop) → List Int → World → Prop) (X : Nat → Prop) (sep : Int → Nat → List Int) (n₀ l B1 B2 B3 : Nat) (p : Option Addr) (cap : Nat) (W : World) (pre : List (Pc R g E)) (W' : World) : Prop :=
  J X (joinT sep g (places pre)).1 W' ∧ Boxed W' B2 3 (.int .i64 (joinT sep g (places pre)).2) ∧ Boxed W' B1 39 (.func (.yield l) #[] #[]) ∧ Boxed W' B3 22 (.slice p R.length cap) ∧ Below n₀ W W'

theorem Inl_own {R : List Row} {g : Nat → List Int} {E : Nat → Prop} {J : (Nat → Prop) → List Int → World → Prop} {B B' : Nat} (hJ : Abx B J) (hB : B ≤ B') (X : Nat → Prop) (sep : Int → Nat → List Int) (n₀ l B1 B2 B3 : Nat) (p : Option Addr) (cap : Nat) (W : World) (hn : n₀ ≤ B') (hnW : n₀ ≤ W.heap.size) :
    OwnFrom B' (Inl (R := R) (g := g) (E := E) J X sep n₀ l B1 B2 B3 p cap W) :=
  OwnFrom.and (hJ.ownFromF hB X (fun pre : List (Pc R g E) => (joinT sep g (places pre)).1)) (OwnFrom.and (Own.from (boxed_own _ _ _) _) (OwnFrom.and (Own.from (boxed_own _ _ _) _) (OwnFrom.and (Own.from (boxed_own _ _ _) _) (ownFrom_below hnW hn))))

/-- The world in which the loop begins. -/
def w3 (W : World) (l : Nat) (p : Option Addr) (len cap : Nat) : World := ((W.alloc (.cells #[.func (.yield l) #[] #[]] 39)).alloc (.cells #[.int .i64 (-1)] 3)).alloc (.cells #[.slice p len cap] 22)
theorem w3_facts (W : World) (l : Nat) (p : Option Addr) (len cap : Nat) : (w3 W l p len cap).heap.size = W.heap.size + 3 ∧ Boxed (w3 W l p len cap) W.heap.size 39 (.func (.yield l) #[] #[]) ∧ Boxed (w3 W l p len cap) (W.heap.size + 1) 3 (.int .i64 (-1)) ∧ Boxed (w3 W l p len cap) (W.heap.size + 1 + 1) 22 (.slice p len cap) ∧ Below W.heap.size W (w3 W l p len cap) := by
  have b1 := Boxed.new W 39 (.func (.yield l) #[] #[])
  have b2 := Boxed.new (W.alloc (.cells #[.func (.yield l) #[] #[]] 39)) 3 (.int .i64 (-1))
  have b3 := Boxed.new ((W.alloc (.cells #[.func (.yield l) #[] #[]] 39)).alloc (.cells #[.int .i64 (-1)] 3)) 22 (.slice p len cap)
  simp only [World.size_alloc] at b2 b3
  exact ⟨by simp [w3], (b1.alloc _).alloc _, b2.alloc _, b3, (((Below.refl _ W).alloc (Nat.le_refl _) _).alloc (by simp) _).alloc (by simp; omega) _⟩
def x3 (X : Nat → Prop) (s : Nat) : Nat → Prop := more (more (more X s) (s + 1)) (s + 1 + 1)
theorem w3_J {B : Nat} {J : (Nat → Prop) → List Int → World → Prop} (hJ : Abx B J) {X : Nat → Prop} {W : World} {pre : List Int} (h : J X pre W) (l : Nat) (p : Option Addr) (len cap : Nat) : J (x3 X W.heap.size) pre (w3 W l p len cap) := by
  have := hJ.new _ _ _ (.cells #[.slice p len cap] 22) (hJ.new _ _ _ (.cells #[.int .i64 (-1)] 3) (hJ.new X pre W (.cells #[.func (.yield l) #[] #[]] 39) h))
  simp only [World.size_alloc] at this
  exact this

theorem wrapi (x : Int) (h1 : -4611686018427387904 ≤ x) (h2 : x ≤ 4611686018427387904) : IntKind.i64.wrap x = x := by rw [IntKind.wrap_i64]; omega

theorem Kx.grown {n₀ l : Nat} {X : Nat → Prop} {W W' : World} (hn : n₀ ≤ W.heap.size) (hX : ∀ b, X b → b < W.heap.size) (h : W.grownBy W' none) : Kx n₀ l X W W' :=
  ⟨(Below.refl n₀ W).grown h hn (fun k e => by cases e), fun b hb => h.block b (hX b hb) (by simp), fun k o _ ho _ => (h.block k (Array.getElem?_eq_some_iff.1 ho).1 (by simp)).trans ho⟩

/-- What a round that goes on leaves. -/
theorem round_end {R : List Row} {g : Nat → List Int} {E : Nat → Prop} {J : (Nat → Prop) → List Int → World → Prop} {B : Nat} {X : Nat → Prop} {sep : Int → Nat → List Int} {n₀ l s cap : Nat} {p : Option Addr} {W0 W1 W4 : World} {pre : List (Pc R g E)} (x : Pc R g E) (hJ : Abx B J) (hs : n₀ ≤ s) (hl : l < W0.heap.size) (hB : s + 3 ≤ W0.heap.size)
    (hI : Inl J (x3 X s) sep n₀ l s (s + 1) (s + 1 + 1) p cap W0 pre W1) (kx : Kx n₀ l (x3 X s) W1 W4) (hJ4 : J (x3 X s) ((joinT sep g (places pre)).1 ++ sep (joinT sep g (places pre)).2 x.1.1 ++ g x.1.1) W4) :
    Hid (KeepsFrom W0.heap.size W1 (W4.setCell ⟨s + 1, 0, none⟩ (.int .i64 (x.1.1 : Nat))) ∧ Kp n₀ (s + 1 + 1) W1 (W4.setCell ⟨s + 1, 0, none⟩ (.int .i64 (x.1.1 : Nat))) ∧
      Inl J (x3 X s) sep n₀ l s (s + 1) (s + 1 + 1) p cap W0 (pre ++ [x]) (W4.setCell ⟨s + 1, 0, none⟩ (.int .i64 (x.1.1 : Nat)))) := by
  obtain ⟨hJ1, bB, bY, bL, hB1⟩ := hI
  have x1 : x3 X s s := .inl (.inl (.inr rfl))
  have x2 : x3 X s (s + 1) := .inl (.inr rfl)
  have x3' : x3 X s (s + 1 + 1) := .inr rfl
  have bB4 := kx.boxed x2 bB
  have bY4 := kx.boxed x1 bY
  have bL4 := kx.boxed x3' bL
  have hb5 : Below n₀ W1 (W4.setCell ⟨s + 1, 0, none⟩ (.int .i64 (x.1.1 : Nat))) := kx.below.setCell (p := ⟨s + 1, 0, none⟩) (by show n₀ ≤ s + 1; omega) _
  have bL5 := bL4.other (B' := s + 1) (by omega) (.int .i64 (x.1.1 : Nat))
  refine ⟨(kx.from hl).trans ((KeepsOthers.setCell _ _ _).from _), ⟨hb5, Eq.trans bL5 (Eq.symm bL)⟩, ?_, ?_, bY4.other (by omega) _, bL5, hB1.trans hb5⟩
  · rw [places_snoc, joinT_snoc]
    exact hJ.set hJ4 x2 _
  · rw [places_snoc, joinT_snoc]
    exact bB4.set _

theorem joinT_len (sep : Int → Nat → List Int) (g : Nat → List Int) (M L : Nat) (hM : ∀ i, (g i).length ≤ M) (hs : ∀ b i, -1 ≤ b → i < L → (sep b i).length ≤ L + 1) (ys : List Nat) (hy : ∀ i, i ∈ ys → i < L) : (joinT sep g ys).1.length ≤ ys.length * (M + L + 1) := by
  have gen : ∀ (ys : List Nat) (o : List Int) (b : Int), -1 ≤ b → (∀ i, i ∈ ys → i < L) → (ys.foldl (fun (s : List Int × Int) i => (s.1 ++ sep s.2 i ++ g i, (i : Int))) (o, b)).1.length ≤ o.length + ys.length * (M + L + 1) := by
    intro ys
    induction ys with
    | nil => intro o b _ _; simp
    | cons y ys ih =>
      intro o b hb hy
      have h1 := hM y
      have h2 := hs b y hb (hy y (by simp))
      have h3 := ih (o ++ sep b y ++ g y) (y : Int) (by omega) (fun i hi => hy i (by simp [hi]))
      rw [List.foldl_cons]
      refine Nat.le_trans h3 ?_
      rw [List.length_append, List.length_append, List.length_cons, Nat.add_mul]
      omega
  have := gen ys [] (-1) (by omega) hy
  simpa [joinT] using this

theorem sepI_len (d : Int) (L : Nat) (h : d ≤ L) : (sepI d).length ≤ L + 1 := by
  unfold sepI
  split
  · simp
  · simp; omega
theorem sepFl_len (L : Nat) (b : Int) (i : Nat) (hb : -1 ≤ b) (hi : i < L) : (sepFl b i).length ≤ L + 1 := by
  unfold sepFl
  split
  · simp
  · exact sepI_len _ _ (by omega)

theorem places_lt {R : List Row} {g : Nat → List Int} {E : Nat → Prop} (ys : List (Pc R g E)) : ∀ i, i ∈ places ys → i < R.length := by
  intro i hi
  obtain ⟨y, -, rfl⟩ := List.mem_map.1 hi
  obtain ⟨-, r, q, c, hr, -⟩ := y.2
  exact (List.getElem?_eq_some_iff.1 hr).1
theorem places_len {R : List Row} {g : Nat → List Int} {E : Nat → Prop} (ys : List (Pc R g E)) : (places ys).length = ys.length := by simp [places]

set_option maxRecDepth 100000 in
set_option maxHeartbeats 2000000 in
theorem flow1_in (n : Nat) (hn : 3 ≤ n) (n₀ N cap Bl l : Nat) (p : Option Addr) (R : List Row) (hR : R.length ≤ 1048576) (hT : ∀ i, (trimG R i).length ≤ 1048576) (hN : 4398046511104 ≤ N)
    (J : (Nat → Prop) → List Int → World → Prop) (X : Nat → Prop) (W : World) (hl : l < W.heap.size) (hn₀ : n₀ ≤ W.heap.size) (hJ : Abx W.heap.size J) (hY : Rounds n₀ N Try.prog l encI J)
    (hBl : W.cell? ⟨Bl, 0, none⟩ = some (.slice p R.length cap)) (hM : MtB n₀ W p R) (h0 : J X [] W) :
    CallsIn Fence.wide n Try.prog 34 #[.func (.yield l) #[] #[], .pointer (some ⟨Bl, 0, none⟩)] W fun e W' => (∃ v, e = .returned v) ∧ ∃ xs, xs = (joinT sepFl (trimG R) (told (tellF R) R.length)).1 ∧ J X xs W' := by
  have h1 : 1 ≤ n := by omega
  refine callsIn_of_wp_marks Try.func34 rfl trivial ?_ rfl
  simp only [Try.ntmps34, List.size_toArray, List.length_cons, List.length_nil, Nat.reduceAdd, Nat.reduceSub, Array.replicate_succ, Array.replicate_zero, List.push_toArray, List.append_toArray, List.nil_append, List.cons_append]
  have hBlt := World.block_lt_of_cell? W _ hBl
  gi_wp2_with (first | (refine ⟨trivial, ?_⟩; gi_at_call 35; refine (tlines_in _ _ _ _ _).mono ?_; rintro e w' ⟨rfl, rfl⟩))
  change Code.wpIn _ _ _ _ _ _ (w3 W l p R.length cap)
  obtain ⟨hsz, bY, bB, bL, hbw⟩ := w3_facts W l p R.length cap
  have hJ0 := w3_J hJ h0 l p R.length cap
  generalize w3 W l p R.length cap = W0 at hsz bY bB bL hbw hJ0 ⊢
  have hM0 := hM.on (hbw.mono hn₀)
  refine wpIn_rangeFunc_ownG rfl h1 (gf := 40) (lb := #[.pointer (some ⟨W.heap.size + 1 + 1, 0, none⟩)]) rfl trivial (enters_of Try.func40 (by kernel_rfl) rfl)
    (tl_stops (n - 1) (by omega) (W.heap.size + 1 + 1) n₀ cap p R (by omega) W0 (by omega) (by omega) bL.cell hM0)
    (fun h k => Kp.trans h k) (hKb1 (by omega) (by omega)) (Below.refl _ _) (fun _ => rfl)
    (Inl J (x3 X W.heap.size) sepFl n₀ l W.heap.size (W.heap.size + 1) (W.heap.size + 1 + 1) p cap W0) (fun _ _ _ => False)
    (Inl_own hJ (by omega) _ _ _ _ _ _ _ _ _ _ (by omega) (by omega)) (fun c => ownFrom_pure _ _)
    ⟨hJ0, bB, bY, bL, Below.refl _ _⟩
    (fun x => { tmps := #[.func (.yield l) #[] #[], .pointer (some ⟨Bl, 0, none⟩), .pointer (some ⟨W.heap.size, 0, none⟩), .pointer (some ⟨W.heap.size + 1, 0, none⟩), .int .i64 (x.1.1 : Nat), x.1.2, .slice p R.length cap, .func (.func 40) #[] #[.pointer (some ⟨W.heap.size + 1 + 1, 0, none⟩)], .int .i64 (x.1.1 : Nat), x.1.2, undef, undef, undef, undef, undef, undef, undef, undef, undef, undef, undef, undef, undef, undef, undef, undef, undef], defers := [] }) ?assign ?body ?done ?stop
  case assign =>
    intro l1 x W1 K hK
    simp only [encP]
    gi_wp2
    exact hK
  case body =>
    clear bY bB bL hbw hJ0 hBl hM h0
    rintro l1 pre x W1 ⟨hJ1, bB, bY, bL, hB1⟩ hlt
    have hIn : Inl J (x3 X W.heap.size) sepFl n₀ l W.heap.size (W.heap.size + 1) (W.heap.size + 1 + 1) p cap W0 pre W1 := ⟨hJ1, bB, bY, bL, hB1⟩
    have RE := fun W4 kx hJ4 => round_end (W4 := W4) x hJ hn₀ (by omega) (by omega) hIn kx hJ4
    have hLen := joinT_len sepFl (trimG R) 1048576 R.length hT (fun b i hb hi => sepFl_len _ b i hb hi) (places pre) (places_lt pre)
    rw [places_len] at hLen
    have hLen2 : (joinT sepFl (trimG R) (places pre)).1.length + 3000000 ≤ N := by
      have : pre.length * (1048576 + R.length + 1) ≤ 1048575 * 2097153 := Nat.mul_le_mul (by omega) (by omega)
      omega
    clear hLen hIn
    obtain ⟨⟨i, v⟩, hE, r, q, c, hr, hv, hsb⟩ := x
    dsimp only at hr hv hsb RE ⊢
    subst hv
    have hiR : i < R.length := (List.getElem?_eq_some_iff.1 hr).1
    have hTi := hT i
    have Iq : Is W1 q (trimG R i) := hsb.is ((hM0.on hB1).1.1 i r hr).2.2
    have Bq := hsb.block ((hM0.on hB1).2.2 i r hr)
    have hX1 := fun b hb => hJ.lt _ _ _ b hJ1 hb
    have hs1 : W.heap.size + 3 ≤ W1.heap.size := by have := hB1.size; omega
    have x1 : x3 X W.heap.size W.heap.size := .inl (.inl (.inr rfl))
    have x2 : x3 X W.heap.size (W.heap.size + 1) := .inl (.inr rfl)
    rcases joinT_last sepFl (trimG R) (places pre) with ⟨hp0, hb⟩ | ⟨j, hj, hb⟩
    · rw [hb] at bB RE
      generalize (joinT sepFl (trimG R) (places pre)).1 = T at hJ1 RE hLen2
      clear hb hp0
      gi_wp2
      refine region_pick (fun w' => Boxed w' (W.heap.size + 1) 3 (.int .i64 (-1)) ∧ Boxed w' W.heap.size 39 (.func (.yield l) #[] #[])) (by kernel_rfl) ?_
      show Any _ _ _ _ _ _ 12 #[false, false, false, false, false, false, false, false, false, false, false, false] { tmps := #[(.func (.yield l) #[] #[]), (.pointer (some ⟨Bl, 0, none⟩)), (.pointer (some ⟨W.heap.size, 0, none⟩)), (.pointer (some ⟨W.heap.size + 1, 0, none⟩)), (.int .i64 (i : Nat)), (.slice q (trimG R i).length c), (.slice p R.length cap), (.func (.func 40) #[] #[.pointer (some ⟨W.heap.size + 1 + 1, 0, none⟩)]), (.int .i64 (i : Nat)), (.slice q (trimG R i).length c), undef, undef, undef, undef, undef, undef, undef, undef, undef, undef, undef, undef, undef, undef, undef, undef, undef], defers := [] } W1.drew
      refine Any.take (i := 0) (v := (.int .i64 (-1))) (wideR _) rfl (by kernel_rfl) (by kernel_rfl) (by kernel_rfl) (fun _ _ _ h => h) (.inl ⟨rfl, fun w hw => by have := hw.1.cell; go_simp⟩) ⟨bB, bY⟩ ?_
      show Any _ _ _ _ _ _ 11 #[true, false, false, false, false, false, false, false, false, false, false, false] { tmps := #[(.func (.yield l) #[] #[]), (.pointer (some ⟨Bl, 0, none⟩)), (.pointer (some ⟨W.heap.size, 0, none⟩)), (.pointer (some ⟨W.heap.size + 1, 0, none⟩)), (.int .i64 (i : Nat)), (.slice q (trimG R i).length c), (.slice p R.length cap), (.func (.func 40) #[] #[.pointer (some ⟨W.heap.size + 1 + 1, 0, none⟩)]), (.int .i64 (i : Nat)), (.slice q (trimG R i).length c), (.int .i64 (-1)), undef, undef, undef, undef, undef, undef, undef, undef, undef, undef, undef, undef, undef, undef, undef, undef], defers := [] } W1.drew
      refine Any.take (i := 1) (v := (.bool false)) (wideR _) rfl (by kernel_rfl) (by kernel_rfl) (by kernel_rfl) (fun _ _ _ h => h) (.inl ⟨rfl, fun w _ => by go_simp⟩) ⟨bB, bY⟩ ?_
      show Any _ _ _ _ _ _ 10 #[true, true, false, false, false, false, false, false, false, false, false, false] { tmps := #[(.func (.yield l) #[] #[]), (.pointer (some ⟨Bl, 0, none⟩)), (.pointer (some ⟨W.heap.size, 0, none⟩)), (.pointer (some ⟨W.heap.size + 1, 0, none⟩)), (.int .i64 (i : Nat)), (.slice q (trimG R i).length c), (.slice p R.length cap), (.func (.func 40) #[] #[.pointer (some ⟨W.heap.size + 1 + 1, 0, none⟩)]), (.int .i64 (i : Nat)), (.slice q (trimG R i).length c), (.int .i64 (-1)), (.bool false), undef, undef, undef, undef, undef, undef, undef, undef, undef, undef, undef, undef, undef, undef, undef], defers := [] } W1.drew
      refine Any.take (i := 2) (v := (.bool false)) (wideR _) rfl (by kernel_rfl) (by kernel_rfl) (by kernel_rfl) (fun _ _ _ h => h) (.inl ⟨rfl, fun w _ => by go_simp⟩) ⟨bB, bY⟩ ?_
      show Any _ _ _ _ _ _ 9 #[true, true, true, false, false, false, false, false, false, false, false, false] { tmps := #[(.func (.yield l) #[] #[]), (.pointer (some ⟨Bl, 0, none⟩)), (.pointer (some ⟨W.heap.size, 0, none⟩)), (.pointer (some ⟨W.heap.size + 1, 0, none⟩)), (.int .i64 (i : Nat)), (.slice q (trimG R i).length c), (.slice p R.length cap), (.func (.func 40) #[] #[.pointer (some ⟨W.heap.size + 1 + 1, 0, none⟩)]), (.int .i64 (i : Nat)), (.slice q (trimG R i).length c), (.int .i64 (-1)), (.bool false), (.bool false), undef, undef, undef, undef, undef, undef, undef, undef, undef, undef, undef, undef, undef, undef], defers := [] } W1.drew
      refine Any.take (i := 3) (v := undef) (wideR _) rfl (by kernel_rfl) (by kernel_rfl) (by kernel_rfl) (fun _ _ _ h => h) (.inr ⟨rfl, rfl⟩) ⟨bB, bY⟩ ?_
      show Any _ _ _ _ _ _ 8 #[true, true, true, true, false, false, false, false, false, false, false, false] { tmps := #[(.func (.yield l) #[] #[]), (.pointer (some ⟨Bl, 0, none⟩)), (.pointer (some ⟨W.heap.size, 0, none⟩)), (.pointer (some ⟨W.heap.size + 1, 0, none⟩)), (.int .i64 (i : Nat)), (.slice q (trimG R i).length c), (.slice p R.length cap), (.func (.func 40) #[] #[.pointer (some ⟨W.heap.size + 1 + 1, 0, none⟩)]), (.int .i64 (i : Nat)), (.slice q (trimG R i).length c), (.int .i64 (-1)), (.bool false), (.bool false), undef, undef, undef, undef, undef, undef, undef, undef, undef, undef, undef, undef, undef, undef], defers := [] } W1.drew
      refine Any.take (i := 4) (v := undef) (wideR _) rfl (by kernel_rfl) (by kernel_rfl) (by kernel_rfl) (fun _ _ _ h => h) (.inr ⟨rfl, rfl⟩) ⟨bB, bY⟩ ?_
      show Any _ _ _ _ _ _ 7 #[true, true, true, true, true, false, false, false, false, false, false, false] { tmps := #[(.func (.yield l) #[] #[]), (.pointer (some ⟨Bl, 0, none⟩)), (.pointer (some ⟨W.heap.size, 0, none⟩)), (.pointer (some ⟨W.heap.size + 1, 0, none⟩)), (.int .i64 (i : Nat)), (.slice q (trimG R i).length c), (.slice p R.length cap), (.func (.func 40) #[] #[.pointer (some ⟨W.heap.size + 1 + 1, 0, none⟩)]), (.int .i64 (i : Nat)), (.slice q (trimG R i).length c), (.int .i64 (-1)), (.bool false), (.bool false), undef, undef, undef, undef, undef, undef, undef, undef, undef, undef, undef, undef, undef, undef], defers := [] } W1.drew
      refine Any.take (i := 5) (v := undef) (wideR _) rfl (by kernel_rfl) (by kernel_rfl) (by kernel_rfl) (fun _ _ _ h => h) (.inr ⟨rfl, rfl⟩) ⟨bB, bY⟩ ?_
      show Any _ _ _ _ _ _ 6 #[true, true, true, true, true, true, false, false, false, false, false, false] { tmps := #[(.func (.yield l) #[] #[]), (.pointer (some ⟨Bl, 0, none⟩)), (.pointer (some ⟨W.heap.size, 0, none⟩)), (.pointer (some ⟨W.heap.size + 1, 0, none⟩)), (.int .i64 (i : Nat)), (.slice q (trimG R i).length c), (.slice p R.length cap), (.func (.func 40) #[] #[.pointer (some ⟨W.heap.size + 1 + 1, 0, none⟩)]), (.int .i64 (i : Nat)), (.slice q (trimG R i).length c), (.int .i64 (-1)), (.bool false), (.bool false), undef, undef, undef, undef, undef, undef, undef, undef, undef, undef, undef, undef, undef, undef], defers := [] } W1.drew
      refine Any.take (i := 6) (v := undef) (wideR _) rfl (by kernel_rfl) (by kernel_rfl) (by kernel_rfl) (fun _ _ _ h => h) (.inr ⟨rfl, rfl⟩) ⟨bB, bY⟩ ?_
      show Any _ _ _ _ _ _ 5 #[true, true, true, true, true, true, true, false, false, false, false, false] { tmps := #[(.func (.yield l) #[] #[]), (.pointer (some ⟨Bl, 0, none⟩)), (.pointer (some ⟨W.heap.size, 0, none⟩)), (.pointer (some ⟨W.heap.size + 1, 0, none⟩)), (.int .i64 (i : Nat)), (.slice q (trimG R i).length c), (.slice p R.length cap), (.func (.func 40) #[] #[.pointer (some ⟨W.heap.size + 1 + 1, 0, none⟩)]), (.int .i64 (i : Nat)), (.slice q (trimG R i).length c), (.int .i64 (-1)), (.bool false), (.bool false), undef, undef, undef, undef, undef, undef, undef, undef, undef, undef, undef, undef, undef, undef], defers := [] } W1.drew
      refine Any.take (i := 7) (v := undef) (wideR _) rfl (by kernel_rfl) (by kernel_rfl) (by kernel_rfl) (fun _ _ _ h => h) (.inr ⟨rfl, rfl⟩) ⟨bB, bY⟩ ?_
      show Any _ _ _ _ _ _ 4 #[true, true, true, true, true, true, true, true, false, false, false, false] { tmps := #[(.func (.yield l) #[] #[]), (.pointer (some ⟨Bl, 0, none⟩)), (.pointer (some ⟨W.heap.size, 0, none⟩)), (.pointer (some ⟨W.heap.size + 1, 0, none⟩)), (.int .i64 (i : Nat)), (.slice q (trimG R i).length c), (.slice p R.length cap), (.func (.func 40) #[] #[.pointer (some ⟨W.heap.size + 1 + 1, 0, none⟩)]), (.int .i64 (i : Nat)), (.slice q (trimG R i).length c), (.int .i64 (-1)), (.bool false), (.bool false), undef, undef, undef, undef, undef, undef, undef, undef, undef, undef, undef, undef, undef, undef], defers := [] } W1.drew
      refine Any.take (i := 8) (v := undef) (wideR _) rfl (by kernel_rfl) (by kernel_rfl) (by kernel_rfl) (fun _ _ _ h => h) (.inr ⟨rfl, rfl⟩) ⟨bB, bY⟩ ?_
      show Any _ _ _ _ _ _ 3 #[true, true, true, true, true, true, true, true, true, false, false, false] { tmps := #[(.func (.yield l) #[] #[]), (.pointer (some ⟨Bl, 0, none⟩)), (.pointer (some ⟨W.heap.size, 0, none⟩)), (.pointer (some ⟨W.heap.size + 1, 0, none⟩)), (.int .i64 (i : Nat)), (.slice q (trimG R i).length c), (.slice p R.length cap), (.func (.func 40) #[] #[.pointer (some ⟨W.heap.size + 1 + 1, 0, none⟩)]), (.int .i64 (i : Nat)), (.slice q (trimG R i).length c), (.int .i64 (-1)), (.bool false), (.bool false), undef, undef, undef, undef, undef, undef, undef, undef, undef, undef, undef, undef, undef, undef], defers := [] } W1.drew
      refine Any.take (i := 9) (v := undef) (wideR _) rfl (by kernel_rfl) (by kernel_rfl) (by kernel_rfl) (fun _ _ _ h => h) (.inr ⟨rfl, rfl⟩) ⟨bB, bY⟩ ?_
      show Any _ _ _ _ _ _ 2 #[true, true, true, true, true, true, true, true, true, true, false, false] { tmps := #[(.func (.yield l) #[] #[]), (.pointer (some ⟨Bl, 0, none⟩)), (.pointer (some ⟨W.heap.size, 0, none⟩)), (.pointer (some ⟨W.heap.size + 1, 0, none⟩)), (.int .i64 (i : Nat)), (.slice q (trimG R i).length c), (.slice p R.length cap), (.func (.func 40) #[] #[.pointer (some ⟨W.heap.size + 1 + 1, 0, none⟩)]), (.int .i64 (i : Nat)), (.slice q (trimG R i).length c), (.int .i64 (-1)), (.bool false), (.bool false), undef, undef, undef, undef, undef, undef, undef, undef, undef, undef, undef, undef, undef, undef], defers := [] } W1.drew
      refine Any.take (i := 10) (v := undef) (wideR _) rfl (by kernel_rfl) (by kernel_rfl) (by kernel_rfl) (fun _ _ _ h => h) (.inr ⟨rfl, rfl⟩) ⟨bB, bY⟩ ?_
      show Any _ _ _ _ _ _ 1 #[true, true, true, true, true, true, true, true, true, true, true, false] { tmps := #[(.func (.yield l) #[] #[]), (.pointer (some ⟨Bl, 0, none⟩)), (.pointer (some ⟨W.heap.size, 0, none⟩)), (.pointer (some ⟨W.heap.size + 1, 0, none⟩)), (.int .i64 (i : Nat)), (.slice q (trimG R i).length c), (.slice p R.length cap), (.func (.func 40) #[] #[.pointer (some ⟨W.heap.size + 1 + 1, 0, none⟩)]), (.int .i64 (i : Nat)), (.slice q (trimG R i).length c), (.int .i64 (-1)), (.bool false), (.bool false), undef, undef, undef, undef, undef, undef, undef, undef, undef, undef, undef, undef, undef, undef], defers := [] } W1.drew
      refine Any.take (i := 11) (v := (.bool false)) (wideR _) rfl (by kernel_rfl) (by kernel_rfl) (by kernel_rfl) (fun _ _ _ h => h) (.inl ⟨rfl, fun w _ => by go_simp⟩) ⟨bB, bY⟩ ?_
      show Any _ _ _ _ _ _ 0 #[true, true, true, true, true, true, true, true, true, true, true, true] { tmps := #[(.func (.yield l) #[] #[]), (.pointer (some ⟨Bl, 0, none⟩)), (.pointer (some ⟨W.heap.size, 0, none⟩)), (.pointer (some ⟨W.heap.size + 1, 0, none⟩)), (.int .i64 (i : Nat)), (.slice q (trimG R i).length c), (.slice p R.length cap), (.func (.func 40) #[] #[.pointer (some ⟨W.heap.size + 1 + 1, 0, none⟩)]), (.int .i64 (i : Nat)), (.slice q (trimG R i).length c), (.int .i64 (-1)), (.bool false), (.bool false), undef, undef, undef, undef, undef, undef, undef, undef, (.bool false), undef, undef, undef, undef, undef], defers := [] } W1.drew
      refine Any.done (by kernel_rfl) ?_
      have cY1 : W1.drew.cell? ⟨W.heap.size, 0, none⟩ = some (.func (.yield l) #[] #[]) := bY.cell
      have HD : Hid (sepFl (-1) i = []) := rfl
      have EA := fun n => each_in hJ hY n _ _ W1.drew q (trimG R i) c (hJ.drew hJ1) Iq.drew Bq (by omega) (by omega)
      gi_wp2_with (first | (refine ⟨trivial, (fun h => by cases h), ?_⟩; gi_at_call 38; refine (CallsIn.inRound l1 (EA _)).mono ?_; rintro e W4 ⟨rfl, hJ4, kx4⟩; have cB4 := (kx4.boxed (A := W1.drew) x2 bB).cell; have fB4 := (kx4.boxed (A := W1.drew) x2 bB).frozen))
      exact (RE W4 ((Kx.drew _ _ _ _).trans kx4) (by rw [HD.out, List.append_nil]; exact hJ4)).out
    · have hjR := places_lt pre j hj
      rw [hb] at bB RE
      have e5 := wrapi ((i : Int) - (j : Int)) (by omega) (by omega)
      have e6 := wrapi ((i : Int) - (j : Int) - 1) (by omega) (by omega)
      generalize (joinT sepFl (trimG R) (places pre)).1 = T at hJ1 RE hLen2
      clear hb hj
      gi_wp2
      refine region_pick (fun w' => Boxed w' (W.heap.size + 1) 3 (.int .i64 j) ∧ Boxed w' W.heap.size 39 (.func (.yield l) #[] #[])) (by kernel_rfl) ?_
      show Any _ _ _ _ _ _ 12 #[false, false, false, false, false, false, false, false, false, false, false, false] { tmps := #[(.func (.yield l) #[] #[]), (.pointer (some ⟨Bl, 0, none⟩)), (.pointer (some ⟨W.heap.size, 0, none⟩)), (.pointer (some ⟨W.heap.size + 1, 0, none⟩)), (.int .i64 (i : Nat)), (.slice q (trimG R i).length c), (.slice p R.length cap), (.func (.func 40) #[] #[.pointer (some ⟨W.heap.size + 1 + 1, 0, none⟩)]), (.int .i64 (i : Nat)), (.slice q (trimG R i).length c), undef, undef, undef, undef, undef, undef, undef, undef, undef, undef, undef, undef, undef, undef, undef, undef, undef], defers := [] } W1.drew
      refine Any.take (i := 0) (v := (.int .i64 (j : Nat))) (wideR _) rfl (by kernel_rfl) (by kernel_rfl) (by kernel_rfl) (fun _ _ _ h => h) (.inl ⟨rfl, fun w hw => by have := hw.1.cell; go_simp⟩) ⟨bB, bY⟩ ?_
      show Any _ _ _ _ _ _ 11 #[true, false, false, false, false, false, false, false, false, false, false, false] { tmps := #[(.func (.yield l) #[] #[]), (.pointer (some ⟨Bl, 0, none⟩)), (.pointer (some ⟨W.heap.size, 0, none⟩)), (.pointer (some ⟨W.heap.size + 1, 0, none⟩)), (.int .i64 (i : Nat)), (.slice q (trimG R i).length c), (.slice p R.length cap), (.func (.func 40) #[] #[.pointer (some ⟨W.heap.size + 1 + 1, 0, none⟩)]), (.int .i64 (i : Nat)), (.slice q (trimG R i).length c), (.int .i64 (j : Nat)), undef, undef, undef, undef, undef, undef, undef, undef, undef, undef, undef, undef, undef, undef, undef, undef], defers := [] } W1.drew
      refine Any.take (i := 1) (v := (.bool true)) (wideR _) rfl (by kernel_rfl) (by kernel_rfl) (by kernel_rfl) (fun _ _ _ h => h) (.inl ⟨rfl, fun w _ => by go_simp⟩) ⟨bB, bY⟩ ?_
      show Any _ _ _ _ _ _ 10 #[true, true, false, false, false, false, false, false, false, false, false, false] { tmps := #[(.func (.yield l) #[] #[]), (.pointer (some ⟨Bl, 0, none⟩)), (.pointer (some ⟨W.heap.size, 0, none⟩)), (.pointer (some ⟨W.heap.size + 1, 0, none⟩)), (.int .i64 (i : Nat)), (.slice q (trimG R i).length c), (.slice p R.length cap), (.func (.func 40) #[] #[.pointer (some ⟨W.heap.size + 1 + 1, 0, none⟩)]), (.int .i64 (i : Nat)), (.slice q (trimG R i).length c), (.int .i64 (j : Nat)), (.bool true), undef, undef, undef, undef, undef, undef, undef, undef, undef, undef, undef, undef, undef, undef, undef], defers := [] } W1.drew
      refine Any.take (i := 2) (v := (.bool true)) (wideR _) rfl (by kernel_rfl) (by kernel_rfl) (by kernel_rfl) (fun _ _ _ h => h) (.inl ⟨rfl, fun w _ => by go_simp⟩) ⟨bB, bY⟩ ?_
      show Any _ _ _ _ _ _ 9 #[true, true, true, false, false, false, false, false, false, false, false, false] { tmps := #[(.func (.yield l) #[] #[]), (.pointer (some ⟨Bl, 0, none⟩)), (.pointer (some ⟨W.heap.size, 0, none⟩)), (.pointer (some ⟨W.heap.size + 1, 0, none⟩)), (.int .i64 (i : Nat)), (.slice q (trimG R i).length c), (.slice p R.length cap), (.func (.func 40) #[] #[.pointer (some ⟨W.heap.size + 1 + 1, 0, none⟩)]), (.int .i64 (i : Nat)), (.slice q (trimG R i).length c), (.int .i64 (j : Nat)), (.bool true), (.bool true), undef, undef, undef, undef, undef, undef, undef, undef, undef, undef, undef, undef, undef, undef], defers := [] } W1.drew
      refine Any.take (i := 3) (v := (.int .i64 (i : Nat))) (wideR _) rfl (by kernel_rfl) (by kernel_rfl) (by kernel_rfl) (fun _ _ _ h => h) (.inl ⟨rfl, fun w _ => by go_simp⟩) ⟨bB, bY⟩ ?_
      show Any _ _ _ _ _ _ 8 #[true, true, true, true, false, false, false, false, false, false, false, false] { tmps := #[(.func (.yield l) #[] #[]), (.pointer (some ⟨Bl, 0, none⟩)), (.pointer (some ⟨W.heap.size, 0, none⟩)), (.pointer (some ⟨W.heap.size + 1, 0, none⟩)), (.int .i64 (i : Nat)), (.slice q (trimG R i).length c), (.slice p R.length cap), (.func (.func 40) #[] #[.pointer (some ⟨W.heap.size + 1 + 1, 0, none⟩)]), (.int .i64 (i : Nat)), (.slice q (trimG R i).length c), (.int .i64 (j : Nat)), (.bool true), (.bool true), (.int .i64 (i : Nat)), undef, undef, undef, undef, undef, undef, undef, undef, undef, undef, undef, undef, undef], defers := [] } W1.drew
      refine Any.take (i := 4) (v := (.int .i64 (j : Nat))) (wideR _) rfl (by kernel_rfl) (by kernel_rfl) (by kernel_rfl) (fun _ _ _ h => h) (.inl ⟨rfl, fun w hw => by have := hw.1.cell; go_simp⟩) ⟨bB, bY⟩ ?_
      show Any _ _ _ _ _ _ 7 #[true, true, true, true, true, false, false, false, false, false, false, false] { tmps := #[(.func (.yield l) #[] #[]), (.pointer (some ⟨Bl, 0, none⟩)), (.pointer (some ⟨W.heap.size, 0, none⟩)), (.pointer (some ⟨W.heap.size + 1, 0, none⟩)), (.int .i64 (i : Nat)), (.slice q (trimG R i).length c), (.slice p R.length cap), (.func (.func 40) #[] #[.pointer (some ⟨W.heap.size + 1 + 1, 0, none⟩)]), (.int .i64 (i : Nat)), (.slice q (trimG R i).length c), (.int .i64 (j : Nat)), (.bool true), (.bool true), (.int .i64 (i : Nat)), (.int .i64 (j : Nat)), undef, undef, undef, undef, undef, undef, undef, undef, undef, undef, undef, undef], defers := [] } W1.drew
      refine Any.take (i := 5) (v := (.int .i64 ((i : Int) - (j : Int)))) (wideR _) rfl (by kernel_rfl) (by kernel_rfl) (by kernel_rfl) (fun _ _ _ h => h) (.inl ⟨rfl, fun w _ => by go_simp⟩) ⟨bB, bY⟩ ?_
      show Any _ _ _ _ _ _ 6 #[true, true, true, true, true, true, false, false, false, false, false, false] { tmps := #[(.func (.yield l) #[] #[]), (.pointer (some ⟨Bl, 0, none⟩)), (.pointer (some ⟨W.heap.size, 0, none⟩)), (.pointer (some ⟨W.heap.size + 1, 0, none⟩)), (.int .i64 (i : Nat)), (.slice q (trimG R i).length c), (.slice p R.length cap), (.func (.func 40) #[] #[.pointer (some ⟨W.heap.size + 1 + 1, 0, none⟩)]), (.int .i64 (i : Nat)), (.slice q (trimG R i).length c), (.int .i64 (j : Nat)), (.bool true), (.bool true), (.int .i64 (i : Nat)), (.int .i64 (j : Nat)), (.int .i64 ((i : Int) - (j : Int))), undef, undef, undef, undef, undef, undef, undef, undef, undef, undef, undef], defers := [] } W1.drew
      refine Any.take (i := 6) (v := (.int .i64 ((i : Int) - (j : Int) - 1))) (wideR _) rfl (by kernel_rfl) (by kernel_rfl) (by kernel_rfl) (fun _ _ _ h => h) (.inl ⟨rfl, fun w _ => by go_simp⟩) ⟨bB, bY⟩ ?_
      show Any _ _ _ _ _ _ 5 #[true, true, true, true, true, true, true, false, false, false, false, false] { tmps := #[(.func (.yield l) #[] #[]), (.pointer (some ⟨Bl, 0, none⟩)), (.pointer (some ⟨W.heap.size, 0, none⟩)), (.pointer (some ⟨W.heap.size + 1, 0, none⟩)), (.int .i64 (i : Nat)), (.slice q (trimG R i).length c), (.slice p R.length cap), (.func (.func 40) #[] #[.pointer (some ⟨W.heap.size + 1 + 1, 0, none⟩)]), (.int .i64 (i : Nat)), (.slice q (trimG R i).length c), (.int .i64 (j : Nat)), (.bool true), (.bool true), (.int .i64 (i : Nat)), (.int .i64 (j : Nat)), (.int .i64 ((i : Int) - (j : Int))), (.int .i64 ((i : Int) - (j : Int) - 1)), undef, undef, undef, undef, undef, undef, undef, undef, undef, undef], defers := [] } W1.drew
      refine Any.take (i := 8) (v := (.func (.yield l) #[] #[])) (wideR _) rfl (by kernel_rfl) (by kernel_rfl) (by kernel_rfl) (fun _ _ _ h => h) (.inl ⟨rfl, fun w hw => by have := hw.2.cell; go_simp⟩) ⟨bB, bY⟩ ?_
      show Any _ _ _ _ _ _ 4 #[true, true, true, true, true, true, true, false, true, false, false, false] { tmps := #[(.func (.yield l) #[] #[]), (.pointer (some ⟨Bl, 0, none⟩)), (.pointer (some ⟨W.heap.size, 0, none⟩)), (.pointer (some ⟨W.heap.size + 1, 0, none⟩)), (.int .i64 (i : Nat)), (.slice q (trimG R i).length c), (.slice p R.length cap), (.func (.func 40) #[] #[.pointer (some ⟨W.heap.size + 1 + 1, 0, none⟩)]), (.int .i64 (i : Nat)), (.slice q (trimG R i).length c), (.int .i64 (j : Nat)), (.bool true), (.bool true), (.int .i64 (i : Nat)), (.int .i64 (j : Nat)), (.int .i64 ((i : Int) - (j : Int))), (.int .i64 ((i : Int) - (j : Int) - 1)), undef, (.func (.yield l) #[] #[]), undef, undef, undef, undef, undef, undef, undef, undef], defers := [] } W1.drew
      refine Any.one (i := 7) (by kernel_rfl) rfl rfl (fun K hK => ?_)
      go_simp
      refine ⟨trivial, (fun h => by cases h), ?_⟩
      refine (CallsIn.inRound l1 (folded_in _ _ _)).mono ?_
      rintro e W2 ⟨rfl, hg⟩
      have bB2 := Boxed.kept (W := W1.drew) bB hg (by simp)
      have bY2 := Boxed.kept (W := W1.drew) bY hg (by simp)
      have hJ2 := hJ.step _ _ W1.drew W2 none (hJ.drew hJ1) hg (fun r e => by cases e)
      have kx2 : Kx n₀ l (x3 X W.heap.size) W1 W2 := (Kx.drew _ _ _ _).trans (Kx.grown (W := W1.drew) (by show n₀ ≤ W1.heap.size; omega) hX1 hg)
      have hs2 : W.heap.size + 3 ≤ W2.heap.size := Nat.le_trans hs1 kx2.below.size
      have REP := fun n => rep_fold hJ hY n _ _ W2 ((i : Int) - (j : Int) - 1) hJ2 (by omega) (by omega) (by omega)
      have HD : Hid (sepFl (j : Int) i = sepI ((i : Int) - (j : Int) - 1)) := (by show sepFl _ _ = _; unfold sepFl; rw [if_neg (by omega)])
      have hd1 : ((i : Int) - (j : Int) - 1) ≤ 1048576 := by omega
      obtain ⟨xa, xb, hfv⟩ := foldV_form ((i : Int) - (j : Int) - 1)
      rw [hfv] at REP ⊢
      refine hK _ _ ⟨bB2, bY2⟩ ?_
      clear hK K
      show Any _ _ _ _ _ _ 3 #[true, true, true, true, true, true, true, true, true, false, false, false] { tmps := #[(.func (.yield l) #[] #[]), (.pointer (some ⟨Bl, 0, none⟩)), (.pointer (some ⟨W.heap.size, 0, none⟩)), (.pointer (some ⟨W.heap.size + 1, 0, none⟩)), (.int .i64 (i : Nat)), (.slice q (trimG R i).length c), (.slice p R.length cap), (.func (.func 40) #[] #[.pointer (some ⟨W.heap.size + 1 + 1, 0, none⟩)]), (.int .i64 (i : Nat)), (.slice q (trimG R i).length c), (.int .i64 (j : Nat)), (.bool true), (.bool true), (.int .i64 (i : Nat)), (.int .i64 (j : Nat)), (.int .i64 ((i : Int) - (j : Int))), (.int .i64 ((i : Int) - (j : Int) - 1)), (.agg #[.int .i64 xa, .int .i64 xb]), (.func (.yield l) #[] #[]), undef, undef, undef, undef, undef, undef, undef, undef], defers := [] } W2
      refine Any.one (i := 9) (by kernel_rfl) rfl rfl (fun K hK => ?_)
      go_simp
      refine ⟨trivial, (fun h => by cases h), ?_⟩
      refine (CallsIn.inRound l1 (REP _)).mono ?_
      rintro e W3 ⟨rfl, hJ3, kx3⟩
      have bB3 := kx3.boxed x2 bB2
      have bY3 := kx3.boxed x1 bY2
      have kx13 := kx2.trans kx3
      refine hK _ _ ⟨bB3, bY3⟩ ?_
      clear hK K REP
      show Any _ _ _ _ _ _ 2 #[true, true, true, true, true, true, true, true, true, true, false, false] { tmps := #[(.func (.yield l) #[] #[]), (.pointer (some ⟨Bl, 0, none⟩)), (.pointer (some ⟨W.heap.size, 0, none⟩)), (.pointer (some ⟨W.heap.size + 1, 0, none⟩)), (.int .i64 (i : Nat)), (.slice q (trimG R i).length c), (.slice p R.length cap), (.func (.func 40) #[] #[.pointer (some ⟨W.heap.size + 1 + 1, 0, none⟩)]), (.int .i64 (i : Nat)), (.slice q (trimG R i).length c), (.int .i64 (j : Nat)), (.bool true), (.bool true), (.int .i64 (i : Nat)), (.int .i64 (j : Nat)), (.int .i64 ((i : Int) - (j : Int))), (.int .i64 ((i : Int) - (j : Int) - 1)), (.agg #[.int .i64 xa, .int .i64 xb]), (.func (.yield l) #[] #[]), (.bool true), undef, undef, undef, undef, undef, undef, undef], defers := [] } W3
      refine Any.take (i := 10) (v := (.bool false)) (wideR _) rfl (by kernel_rfl) (by kernel_rfl) (by kernel_rfl) (fun _ _ _ h => h) (.inl ⟨rfl, fun w _ => by go_simp⟩) ⟨bB3, bY3⟩ ?_
      show Any _ _ _ _ _ _ 1 #[true, true, true, true, true, true, true, true, true, true, true, false] { tmps := #[(.func (.yield l) #[] #[]), (.pointer (some ⟨Bl, 0, none⟩)), (.pointer (some ⟨W.heap.size, 0, none⟩)), (.pointer (some ⟨W.heap.size + 1, 0, none⟩)), (.int .i64 (i : Nat)), (.slice q (trimG R i).length c), (.slice p R.length cap), (.func (.func 40) #[] #[.pointer (some ⟨W.heap.size + 1 + 1, 0, none⟩)]), (.int .i64 (i : Nat)), (.slice q (trimG R i).length c), (.int .i64 (j : Nat)), (.bool true), (.bool true), (.int .i64 (i : Nat)), (.int .i64 (j : Nat)), (.int .i64 ((i : Int) - (j : Int))), (.int .i64 ((i : Int) - (j : Int) - 1)), (.agg #[.int .i64 xa, .int .i64 xb]), (.func (.yield l) #[] #[]), (.bool true), (.bool false), undef, undef, undef, undef, undef, undef], defers := [] } W3
      refine Any.take (i := 11) (v := (.bool false)) (wideR _) rfl (by kernel_rfl) (by kernel_rfl) (by kernel_rfl) (fun _ _ _ h => h) (.inl ⟨rfl, fun w _ => by go_simp⟩) ⟨bB3, bY3⟩ ?_
      show Any _ _ _ _ _ _ 0 #[true, true, true, true, true, true, true, true, true, true, true, true] { tmps := #[(.func (.yield l) #[] #[]), (.pointer (some ⟨Bl, 0, none⟩)), (.pointer (some ⟨W.heap.size, 0, none⟩)), (.pointer (some ⟨W.heap.size + 1, 0, none⟩)), (.int .i64 (i : Nat)), (.slice q (trimG R i).length c), (.slice p R.length cap), (.func (.func 40) #[] #[.pointer (some ⟨W.heap.size + 1 + 1, 0, none⟩)]), (.int .i64 (i : Nat)), (.slice q (trimG R i).length c), (.int .i64 (j : Nat)), (.bool true), (.bool true), (.int .i64 (i : Nat)), (.int .i64 (j : Nat)), (.int .i64 ((i : Int) - (j : Int))), (.int .i64 ((i : Int) - (j : Int) - 1)), (.agg #[.int .i64 xa, .int .i64 xb]), (.func (.yield l) #[] #[]), (.bool true), (.bool false), (.bool false), undef, undef, undef, undef, undef], defers := [] } W3
      refine Any.done (by kernel_rfl) ?_
      have cY3 := bY3.cell
      have EA := fun n => each_in hJ hY n _ _ W3 q (trimG R i) c hJ3 (Iq.below Bq kx13.below) Bq (by rw [List.length_append]; have := sepI_len ((i : Int) - (j : Int) - 1) 1048576 (by omega); omega) (by omega)
      gi_wp2_with (first | (refine ⟨trivial, (fun h => by cases h), ?_⟩; gi_at_call 38; refine (CallsIn.inRound l1 (EA _)).mono ?_; rintro e W4 ⟨rfl, hJ4, kx4⟩; have cB4 := (kx4.boxed x2 bB3).cell; have fB4 := (kx4.boxed x2 bB3).frozen))
      exact (RE W4 (kx13.trans kx4) (by rw [HD.out]; exact hJ4)).out
  case done =>
    rintro D ys W1 hD hys ⟨hJ1, bB, bY, bL, hB1⟩ hK
    gi_wp2
    refine ⟨by simp, .inl ⟨_, _, rfl, run_takeDeferred hK, ?_⟩⟩
    refine ⟨_, results_none rfl _ _ _, ⟨_, rfl⟩, _, rfl, ?_⟩
    rw [hys] at hJ1
    refine hJ.less _ _ _ _ (hJ.step _ _ W1 _ (some D) hJ1 (grownBy_putObj' W1 D _) (fun r e => by cases e; exact .inr ⟨by omega, _, hK, rfl⟩)) (fun b hb => .inl (.inl (.inl hb)))
  case stop =>
    rintro D c pre W1 _ _ h _
    exact h.elim
end Go.Proofs.Ytfblagepgflndaa
