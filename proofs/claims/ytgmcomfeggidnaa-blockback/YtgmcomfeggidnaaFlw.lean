/- flowPoints' iterator: it tells the code points of Flow's text, for every body. -/
import Derived.Test.YtgmcomfeggidnaaFld
set_option linter.unusedVariables false
set_option linter.unusedSimpArgs false
namespace Go.Proofs.Ytgmcomfeggidnaa
open Go.RowKit Go.Shelf
attribute [local go_sem] Oper.semAt_some

/-- The text of lines that are told one by one: the text so far, and the place of the last line. -/
def joinT (sep : Int → Nat → List Int) (g : Nat → List Int) (ys : List Nat) : List Int × Int := ys.foldl (fun s i => (s.1 ++ sep s.2 i ++ g i, (i : Int))) ([], -1)
theorem joinT_snoc (sep : Int → Nat → List Int) (g : Nat → List Int) (ys : List Nat) (i : Nat) : joinT sep g (ys ++ [i]) = ((joinT sep g ys).1 ++ sep (joinT sep g ys).2 i ++ g i, (i : Int)) := by
  unfold joinT
  rw [List.foldl_append]
  rfl
theorem joinT_last (sep : Int → Nat → List Int) (g : Nat → List Int) (ys : List Nat) : (ys = [] ∧ (joinT sep g ys).2 = -1) ∨ ∃ i, i ∈ ys ∧ (joinT sep g ys).2 = (i : Int) := by
  rcases List.eq_nil_or_concat ys with rfl | ⟨zs, i, rfl⟩
  · exact .inl ⟨rfl, rfl⟩
  · refine .inr ⟨i, by simp, ?_⟩
    rw [List.concat_eq_append, joinT_snoc]

def sepI (d : Int) : List Int := if d = 0 then [32] else List.replicate d.toNat 10
def sepFl (b : Int) (i : Nat) : List Int := if b < 0 then [] else sepI ((i : Int) - b - 1)

/-- The code points that a value of the kind runV stands for. -/
theorem rep_fold {n₀ N B l : Nat} {J : (Nat → Prop) → List Int → World → Prop} (hJ : Abx B J) (hY : Rounds n₀ N Try.prog l encI J) (n : Nat) (X : Nat → Prop) (pre : List Int) (W : World) (d : Int)
    (h0 : J X pre W) (hn : n₀ ≤ W.heap.size) (hk : pre.length + 1 + d.toNat ≤ N) (hk2 : d ≤ 1099511627776) :
    CallsIn Fence.wide n Try.prog 60 #[foldV d, .func (.yield l) #[] #[]] W fun e W' => e = .returned (.bool true) ∧ J X (pre ++ sepI d) W' ∧ Kx n₀ l X W W' := by
  by_cases h : d = 0
  · have := repeat_in hJ hY n X pre W 32 1 h0 hn (by simp; omega) (by omega)
    unfold foldV sepI
    rw [if_pos h, if_pos h]
    exact this
  · have := repeat_in hJ hY n X pre W 10 d h0 hn (by omega) hk2
    unfold foldV sepI
    rw [if_neg h, if_neg h]
    exact this

/-- Between two rounds of a loop over lines. -/
def Inl {R : List Row} {g : Nat → List Int} {E : Nat → Prop} (J : (Nat → Prop) → List Int → World → Prop) (X : Nat → Prop) (sep : Int → Nat → List Int) (n₀ l B1 B2 B3 : Nat) (p : Option Addr) (cap : Nat) (W : World) (pre : List (Pc R g E)) (W' : World) : Prop :=
  J X (joinT sep g (places pre)).1 W' ∧ Boxed W' B2 3 (.int .i64 (joinT sep g (places pre)).2) ∧ Boxed W' B1 42 (.func (.yield l) #[] #[]) ∧ Boxed W' B3 41 (.slice p R.length cap) ∧ Below n₀ W W'

theorem Inl_own {R : List Row} {g : Nat → List Int} {E : Nat → Prop} {J : (Nat → Prop) → List Int → World → Prop} {B B' : Nat} (hJ : Abx B J) (hB : B ≤ B') (X : Nat → Prop) (sep : Int → Nat → List Int) (n₀ l B1 B2 B3 : Nat) (p : Option Addr) (cap : Nat) (W : World) (hn : n₀ ≤ B') (hnW : n₀ ≤ W.heap.size) :
    OwnFrom B' (Inl (R := R) (g := g) (E := E) J X sep n₀ l B1 B2 B3 p cap W) :=
  OwnFrom.and (hJ.ownFromF hB X (fun pre : List (Pc R g E) => (joinT sep g (places pre)).1)) (OwnFrom.and (Own.from (boxed_own _ _ _) _) (OwnFrom.and (Own.from (boxed_own _ _ _) _) (OwnFrom.and (Own.from (boxed_own _ _ _) _) (ownFrom_below hnW hn))))

/-- The world in which the loop begins. -/
def w3 (W : World) (l : Nat) (p : Option Addr) (len cap : Nat) : World := ((W.alloc (.cells #[.func (.yield l) #[] #[]] 42)).alloc (.cells #[.int .i64 (-1)] 3)).alloc (.cells #[.slice p len cap] 41)
theorem w3_facts (W : World) (l : Nat) (p : Option Addr) (len cap : Nat) : (w3 W l p len cap).heap.size = W.heap.size + 3 ∧ Boxed (w3 W l p len cap) W.heap.size 42 (.func (.yield l) #[] #[]) ∧ Boxed (w3 W l p len cap) (W.heap.size + 1) 3 (.int .i64 (-1)) ∧ Boxed (w3 W l p len cap) (W.heap.size + 1 + 1) 41 (.slice p len cap) ∧ Below W.heap.size W (w3 W l p len cap) := by
  have b1 := Boxed.new W 42 (.func (.yield l) #[] #[])
  have b2 := Boxed.new (W.alloc (.cells #[.func (.yield l) #[] #[]] 42)) 3 (.int .i64 (-1))
  have b3 := Boxed.new ((W.alloc (.cells #[.func (.yield l) #[] #[]] 42)).alloc (.cells #[.int .i64 (-1)] 3)) 41 (.slice p len cap)
  simp only [World.size_alloc] at b2 b3
  exact ⟨by simp [w3], (b1.alloc _).alloc _, b2.alloc _, b3, (((Below.refl _ W).alloc (Nat.le_refl _) _).alloc (by simp) _).alloc (by simp; omega) _⟩
def x3 (X : Nat → Prop) (s : Nat) : Nat → Prop := more (more (more X s) (s + 1)) (s + 1 + 1)
theorem w3_J {B : Nat} {J : (Nat → Prop) → List Int → World → Prop} (hJ : Abx B J) {X : Nat → Prop} {W : World} {pre : List Int} (h : J X pre W) (l : Nat) (p : Option Addr) (len cap : Nat) : J (x3 X W.heap.size) pre (w3 W l p len cap) := by
  have := hJ.new _ _ _ (.cells #[.slice p len cap] 41) (hJ.new _ _ _ (.cells #[.int .i64 (-1)] 3) (hJ.new X pre W (.cells #[.func (.yield l) #[] #[]] 42) h))
  simp only [World.size_alloc] at this
  exact this

theorem wrapi (x : Int) (h1 : -4611686018427387904 ≤ x) (h2 : x ≤ 4611686018427387904) : IntKind.i64.wrap x = x := by rw [IntKind.wrap_i64]; omega

theorem Kx.grown {n₀ l : Nat} {X : Nat → Prop} {W W' : World} (hn : n₀ ≤ W.heap.size) (hX : ∀ b, X b → b < W.heap.size) (h : W.grownBy W' none) : Kx n₀ l X W W' :=
  ⟨(Below.refl n₀ W).grown h hn (fun k e => by cases e), fun b hb => h.block b (hX b hb) (by simp), fun k o _ ho _ => (h.block k (Array.getElem?_eq_some_iff.1 ho).1 (by simp)).trans ho⟩

/-- What a round that goes on leaves. -/
theorem round_end {R : List Row} {g : Nat → List Int} {E : Nat → Prop} {J : (Nat → Prop) → List Int → World → Prop} {B : Nat} {X : Nat → Prop} {sep : Int → Nat → List Int} {n₀ l s cap : Nat} {p : Option Addr} {W0 W1 W4 : World} {pre : List (Pc R g E)} (x : Pc R g E) (hJ : Abx B J) (hs : n₀ ≤ s) (hl : l < W0.heap.size) (hB : s + 3 ≤ W0.heap.size)
    (hI : Inl J (x3 X s) sep n₀ l s (s + 1) (s + 1 + 1) p cap W0 pre W1) (kx : Kx n₀ l (x3 X s) W1 W4) (hJ4 : J (x3 X s) ((joinT sep g (places pre)).1 ++ sep (joinT sep g (places pre)).2 x.1.1 ++ g x.1.1) W4) :
    Hid (KeepsFrom W0.heap.size W1 (W4.setCell ⟨s + 1, 0, none⟩ (.int .i64 (x.1.1 : Nat))) ∧ Kp n₀ (s + 1 + 1) W1 (W4.setCell ⟨s + 1, 0, none⟩ (.int .i64 (x.1.1 : Nat))) ∧
      Inl J (x3 X s) sep n₀ l s (s + 1) (s + 1 + 1) p cap W0 (pre ++ [x]) (W4.setCell ⟨s + 1, 0, none⟩ (.int .i64 (x.1.1 : Nat)))) := by
  obtain ⟨hJ1, bB, bY, bL, hB1⟩ := hI
  have x1 : x3 X s s := .inl (.inl (.inr rfl))
  have x2 : x3 X s (s + 1) := .inl (.inr rfl)
  have x3' : x3 X s (s + 1 + 1) := .inr rfl
  have bB4 := kx.boxed x2 bB
  have bY4 := kx.boxed x1 bY
  have bL4 := kx.boxed x3' bL
  have hb5 : Below n₀ W1 (W4.setCell ⟨s + 1, 0, none⟩ (.int .i64 (x.1.1 : Nat))) := kx.below.setCell (p := ⟨s + 1, 0, none⟩) (by show n₀ ≤ s + 1; omega) _
  have bL5 := bL4.other (B' := s + 1) (by omega) (.int .i64 (x.1.1 : Nat))
  refine ⟨(kx.from hl).trans ((KeepsOthers.setCell _ _ _).from _), ⟨hb5, Eq.trans bL5 (Eq.symm bL)⟩, ?_, ?_, bY4.other (by omega) _, bL5, hB1.trans hb5⟩
  · rw [places_snoc, joinT_snoc]
    exact hJ.set hJ4 x2 _
  · rw [places_snoc, joinT_snoc]
    exact bB4.set _

theorem joinT_len (sep : Int → Nat → List Int) (g : Nat → List Int) (M L : Nat) (hM : ∀ i, (g i).length ≤ M) (hs : ∀ b i, -1 ≤ b → i < L → (sep b i).length ≤ L + 1) (ys : List Nat) (hy : ∀ i, i ∈ ys → i < L) : (joinT sep g ys).1.length ≤ ys.length * (M + L + 1) := by
  have gen : ∀ (ys : List Nat) (o : List Int) (b : Int), -1 ≤ b → (∀ i, i ∈ ys → i < L) → (ys.foldl (fun (s : List Int × Int) i => (s.1 ++ sep s.2 i ++ g i, (i : Int))) (o, b)).1.length ≤ o.length + ys.length * (M + L + 1) := by
    intro ys
    induction ys with
    | nil => intro o b _ _; simp
    | cons y ys ih =>
      intro o b hb hy
      have h1 := hM y
      have h2 := hs b y hb (hy y (by simp))
      have h3 := ih (o ++ sep b y ++ g y) (y : Int) (by omega) (fun i hi => hy i (by simp [hi]))
      rw [List.foldl_cons]
      refine Nat.le_trans h3 ?_
      rw [List.length_append, List.length_append, List.length_cons, Nat.add_mul]
      omega
  have := gen ys [] (-1) (by omega) hy
  simpa [joinT] using this

theorem sepI_len (d : Int) (L : Nat) (h : d ≤ L) : (sepI d).length ≤ L + 1 := by
  unfold sepI
  split
  · simp
  · simp; omega
theorem sepFl_len (L : Nat) (b : Int) (i : Nat) (hb : -1 ≤ b) (hi : i < L) : (sepFl b i).length ≤ L + 1 := by
  unfold sepFl
  split
  · simp
  · exact sepI_len _ _ (by omega)

theorem places_lt {R : List Row} {g : Nat → List Int} {E : Nat → Prop} (ys : List (Pc R g E)) : ∀ i, i ∈ places ys → i < R.length := by
  intro i hi
  obtain ⟨y, -, rfl⟩ := List.mem_map.1 hi
  obtain ⟨-, r, q, c, hr, -⟩ := y.2
  exact (List.getElem?_eq_some_iff.1 hr).1
theorem places_len {R : List Row} {g : Nat → List Int} {E : Nat → Prop} (ys : List (Pc R g E)) : (places ys).length = ys.length := by simp [places]

end Go.Proofs.Ytgmcomfeggidnaa
