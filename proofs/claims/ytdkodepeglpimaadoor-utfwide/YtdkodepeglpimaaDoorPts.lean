/- utf.Points: which code points any bytes are, or that they are none. -/
import Derived.Test.YtdkodepeglpimaaDoorIter
set_option linter.unusedVariables false
set_option linter.unusedSimpArgs false
namespace Go.Proofs.YtdkodepeglpimaaDoor
open Go.RowKit Go.Shelf
attribute [local go_sem] Oper.semAt_some

set_option maxHeartbeats 1000000 in
theorem points_in (n : Nat) (p : Option Addr) (len cap : Nat) (form : Int) (w : World) :
    CallsIn Fence.wide n Tryd.prog 17 #[.slice p len cap, .int .i64 form] w fun e w' => e = .returned (.func (.func 28) #[] #[.pointer (some ⟨w.heap.size, 0, none⟩), .pointer (some ⟨w.heap.size + 1, 0, none⟩)]) ∧ w' = (w.alloc (.cells #[.slice p len cap] 22)).alloc (.cells #[.int .i64 form] 3) := by
  refine callsIn_of_wp Tryd.func17 rfl trivial ?_ rfl
  simp only [Tryd.ntmps17, List.size_toArray, List.length_cons, List.length_nil, Nat.reduceAdd, Nat.reduceSub, Array.replicate_succ, Array.replicate_zero, List.push_toArray, List.append_toArray, List.nil_append, List.cons_append]
  gi_wp2
  go_ret
  exact ⟨rfl, rfl⟩

theorem points_stops (n : Nat) (hn : 1 ≤ n) (Bb Bf n₀ cap : Nat) (p : Option Addr) (bs : List UInt8) (form : Int) (hl : bs.length ≤ cap) (hc : cap ≤ maxLen) (w : World) (hBb : Bb < w.heap.size) (hBf : Bf < w.heap.size) (hn₀ : n₀ ≤ w.heap.size)
    (cB : w.cell? ⟨Bb, 0, none⟩ = some (.slice p bs.length cap)) (cF : w.cell? ⟨Bf, 0, none⟩ = some (.int .i64 form)) (hL : Lies n₀ w p bs) :
    SeqStopsK Fence.wide n Tryd.prog 28 #[.pointer (some ⟨Bb, 0, none⟩), .pointer (some ⟨Bf, 0, none⟩)] (fun x : Int × Bool => #[Value.int .i64 x.1, Value.bool x.2]) (Kp2 n₀ Bb Bf) (fun ys => ys = seqS form 0 bs) (fun pre => pre <+: seqS form 0 bs) bs.length w := fun l J Jx W hW hJ _ hY h0 =>
  points1_in n hn l Bb Bf n₀ cap p bs form hl hc J Jx W (Nat.le_trans hn₀ hW.size) hJ hY ((hW.cell (p := ⟨Bb, 0, none⟩) hBb).trans cB) ((hW.cell (p := ⟨Bf, 0, none⟩) hBf).trans cF) (hL.below (hW.mono hn₀)) h0

def rightP (form : Int) (bs : List UInt8) : Bool := (seqS form 0 bs).all (·.2)
def ptsP (form : Int) (bs : List UInt8) : List Int := (seqS form 0 bs).map (·.1)

theorem below2 (w : World) (x y : Obj) : Below w.heap.size w ((w.alloc x).alloc y) := ((Below.refl _ w).alloc (Nat.le_refl _) _).alloc (by simp) _

set_option maxRecDepth 100000 in
set_option maxHeartbeats 1000000 in
theorem Points_long (p : Option Addr) (len cap : Nat) (w : World) (h : 1048576 < (len : Int)) :
    Calls Tryd.prog 9 #[.slice p len cap] w fun e w' => e = .returned (.tuple #[.slice none 0 0, .int .i64 3]) ∧ Below w.heap.size w w' := by
  go_enter Tryd.func9, Tryd.ntmps9
  go_wp2
  exact bodyPost_ret (v := .tuple #[.slice none 0 0, .int .i64 3]) (by simp [results, Tryd.results9, go_sem]) rfl ⟨rfl, below2 w _ _⟩

theorem Tryd.info3 : (Tryd.prog.info? 3).map (fun i => (i.zero, i.size, i.bytes)) = some (some (.int .i64 0), 1, 8) := by kernel_rfl

theorem hKb2 {w : World} {n₀ Bb Bf : Nat} (hb : Bb < w.heap.size) (hf : Bf < w.heap.size) (hn : n₀ ≤ w.heap.size) (W : World) (l : Nat) (o o' : Obj) (hl : w.heap.size ≤ l) (h : W.heap[l]? = some o) (h1 : o.isCells = false) (h2 : o.isWalk = false) : Kp2 n₀ Bb Bf W (W.putObj l o') :=
  ⟨belowK_b hn W l o o' hl h h1 h2, World.putObj_heap_other (by omega), World.putObj_heap_other (by omega)⟩

theorem past {W w1 : World} {B B' base : Nat} {t e : TypeId} {size k : Nat} {u v v' : Value} {xs : List Value} {tmp : Obj} (hx : Boxed W B' t u) (hrow : W.ownsRow base e size v k xs) (hlt : B' < base) (hgrow : (W.alloc tmp).grownBy w1 v.ownBlock) (hne : B' ≠ B) :
    Boxed (w1.setCell ⟨B, 0, none⟩ v') B' t u :=
  ((hx.alloc tmp).kept hgrow (fun e => by have := (hrow.lt _ e.symm).1; omega)).other hne v'

theorem ownsRow_mono {w : World} {base base' : Nat} {e : TypeId} {size : Nat} {v : Value} {n : Nat} {xs : List Value} (h : w.ownsRow base e size v n xs) (hb : base' ≤ base) : w.ownsRow base' e size v n xs := by
  obtain ⟨h1, h2 | ⟨g, cap, cur, hv, hg, rest⟩⟩ := h
  · exact ⟨h1, .inl h2⟩
  · exact ⟨h1, .inr ⟨g, cap, cur, hv, Nat.le_trans hb hg, rest⟩⟩

theorem ownsRow_form {w : World} {base : Nat} {e : TypeId} {size : Nat} {v : Value} {n : Nat} {xs : List Value} (h : w.ownsRow base e size v n xs) : ∃ a k c, v = .slice a k c := by
  obtain ⟨-, ⟨rfl, -⟩ | ⟨g, cap, cur, rfl, -⟩⟩ := h
  · exact ⟨_, _, _, rfl⟩
  · exact ⟨_, _, _, rfl⟩

/-- The world in which the loop of Points begins. -/
def w5 (w : World) (q : Option Addr) (n c : Nat) (form : Int) : World :=
  ((((w.alloc (.cells #[.slice none 0 0] 24)).alloc (.cells #[.int .i64 0] 25)).alloc (.cells #[.slice none 0 0] 24)).alloc (.cells #[.slice q n c] 22)).alloc (.cells #[.int .i64 form] 3)

theorem w5_size (w : World) (q : Option Addr) (n c : Nat) (form : Int) : (w5 w q n c form).heap.size = w.heap.size + 5 := by unfold w5; simp
theorem w5_boxes (w : World) (q : Option Addr) (n c : Nat) (form : Int) :
    Boxed (w5 w q n c form) w.heap.size 24 (.slice none 0 0) ∧ Boxed (w5 w q n c form) (w.heap.size + 1) 25 (.int .i64 0) ∧ Boxed (w5 w q n c form) (w.heap.size + 1 + 1) 24 (.slice none 0 0) ∧
    Boxed (w5 w q n c form) (w.heap.size + 1 + 1 + 1) 22 (.slice q n c) ∧ Boxed (w5 w q n c form) (w.heap.size + 1 + 1 + 1 + 1) 3 (.int .i64 form) := by
  have b1 := Boxed.new w 24 (.slice none 0 0)
  have b2 := Boxed.new (w.alloc (.cells #[.slice none 0 0] 24)) 25 (.int .i64 0)
  have b3 := Boxed.new ((w.alloc (.cells #[.slice none 0 0] 24)).alloc (.cells #[.int .i64 0] 25)) 24 (.slice none 0 0)
  have b4 := Boxed.new (((w.alloc (.cells #[.slice none 0 0] 24)).alloc (.cells #[.int .i64 0] 25)).alloc (.cells #[.slice none 0 0] 24)) 22 (.slice q n c)
  have b5 := Boxed.new ((((w.alloc (.cells #[.slice none 0 0] 24)).alloc (.cells #[.int .i64 0] 25)).alloc (.cells #[.slice none 0 0] 24)).alloc (.cells #[.slice q n c] 22)) 3 (.int .i64 form)
  simp only [World.size_alloc] at b2 b3 b4 b5
  exact ⟨(((b1.alloc _).alloc _).alloc _).alloc _, ((b2.alloc _).alloc _).alloc _, (b3.alloc _).alloc _, b4.alloc _, b5⟩
theorem w5_below (w : World) (q : Option Addr) (n c : Nat) (form : Int) : Below w.heap.size w (w5 w q n c form) := by
  unfold w5
  exact ((((below2 w _ _).alloc (by simp; omega) _).alloc (by simp; omega) _).alloc (by simp; omega) _)

/-- Between two rounds. -/
def Inv (w : World) (q : Option Addr) (n c : Nat) (form : Int) (pre : List (Int × Bool)) (W : World) : Prop :=
  (∃ v, Boxed W (w.heap.size + 1 + 1) 24 v ∧ W.ownsRow (w.heap.size + 5) 3 1 v pre.length (pre.map fun x => Value.int .i64 x.1) ∧ True) ∧
  (∀ x, x ∈ pre → x.2 = true) ∧ Boxed W w.heap.size 24 (.slice none 0 0) ∧ Boxed W (w.heap.size + 1) 25 (.int .i64 0) ∧
  Boxed W (w.heap.size + 1 + 1 + 1) 22 (.slice q n c) ∧ Boxed W (w.heap.size + 1 + 1 + 1 + 1) 3 (.int .i64 form) ∧ Below w.heap.size w W
/-- Behind a round that has left. -/
def Out (w : World) (c : Code) (pre : List (Int × Bool)) (W : World) : Prop :=
  (c = .ret ∧ ∃ x, x ∈ pre ∧ x.2 = false) ∧ Boxed W w.heap.size 24 (.slice none 0 0) ∧ Boxed W (w.heap.size + 1) 25 (.int .i64 4) ∧ Below w.heap.size w W

theorem Inv_own (w : World) (q : Option Addr) (n c : Nat) (form : Int) (B : Nat) (hB : w.heap.size ≤ B) : OwnFrom B (Inv w q n c form) :=
  OwnFrom.and (Own.from (holdsRow_own (w.heap.size + 5) (w.heap.size + 1 + 1) 24 3 1 (fun pre : List (Int × Bool) => pre.length) (fun pre => pre.map fun x => Value.int .i64 x.1) (fun _ _ => True)) _)
    (OwnFrom.and (ownFrom_pure _ _) (OwnFrom.and (Own.from (boxed_own _ _ _) _) (OwnFrom.and (Own.from (boxed_own _ _ _) _) (OwnFrom.and (Own.from (boxed_own _ _ _) _) (OwnFrom.and (Own.from (boxed_own _ _ _) _) (ownFrom_below (Nat.le_refl _) hB))))))
theorem Out_own (w : World) (c : Code) (B : Nat) (hB : w.heap.size ≤ B) : OwnFrom B (Out w c) :=
  OwnFrom.and (ownFrom_pure _ _) (OwnFrom.and (Own.from (boxed_own _ _ _) _) (OwnFrom.and (Own.from (boxed_own _ _ _) _) (ownFrom_below (Nat.le_refl _) hB)))

set_option maxRecDepth 100000 in
set_option maxHeartbeats 2000000 in
theorem Points_in (n : Nat) (hn : 3 ≤ n) (p q : Option Addr) (len cap m : Nat) (form : Int) (bs : List UInt8) (w : World) (h : (len : Int) ≤ 1048576) (hbl : bs.length ≤ len) (hcm : bs.length ≤ cap - m) (hc : cap ≤ maxLen)
    (hF : ∀ w2, Below w.heap.size w w2 → CallsIn Fence.wide (n - 1) Tryd.prog 11 #[.slice p len cap] w2 fun e w' => e = .returned (.tuple #[.int .i64 form, .int .i64 m]) ∧ w' = w2)
    (hsl : ∀ w2, (Instr.slice 22 (.slice p len cap) (some (.int .i64 m)) none none).run Tryd.prog w2 = .ok (.slice q bs.length (cap - m)) w2)
    (hL : Lies w.heap.size w q bs) :
    CallsIn Fence.wide n Tryd.prog 9 #[.slice p len cap] w fun e w' => ∃ v ec, e = .returned (.tuple #[v, .int .i64 ec]) ∧ Below w.heap.size w w' ∧
      ((rightP form bs = true ∧ ec = 0 ∧ w'.ownsRow w.heap.size 3 1 v (ptsP form bs).length ((ptsP form bs).map (.int .i64))) ∨ (rightP form bs = false ∧ ec = 4 ∧ v = .slice none 0 0)) := by
  have h1 : 1 ≤ n := by omega
  obtain ⟨i0, hi, hz0, hz1, hz2⟩ := info_parts Tryd.info3
  refine callsIn_of_wp_marks Tryd.func9 rfl trivial ?_ rfl
  simp only [Tryd.ntmps9, List.size_toArray, List.length_cons, List.length_nil, Nat.reduceAdd, Nat.reduceSub, Array.replicate_succ, Array.replicate_zero, List.push_toArray, List.append_toArray, List.nil_append, List.cons_append]
  gi_wp2_with (first | (refine ⟨trivial, ?_⟩; gi_at_call 11; refine (hF _ (below2 w _ _)).mono ?_; rintro e w' ⟨rfl, rfl⟩) | (refine ⟨trivial, ?_⟩; gi_at_call 17; refine (points_in _ _ _ _ _ _).mono ?_; rintro e w' ⟨rfl, rfl⟩))
  change Code.wpIn _ _ _ _ _ _ (w5 w q bs.length (cap - m) form)
  have hsz := w5_size w q bs.length (cap - m) form
  have hbx := w5_boxes w q bs.length (cap - m) form
  have hbw := w5_below w q bs.length (cap - m) form
  generalize w5 w q bs.length (cap - m) form = W0 at hsz hbx hbw ⊢
  obtain ⟨bR, bE, bL, bB, bF⟩ := hbx
  refine wpIn_rangeFunc_ownG rfl h1 (gf := 28) (lb := #[.pointer (some ⟨w.heap.size + 1 + 1 + 1, 0, none⟩), .pointer (some ⟨w.heap.size + 1 + 1 + 1 + 1, 0, none⟩)]) rfl trivial (enters_of Tryd.func28 (by kernel_rfl) rfl)
    (points_stops (n - 1) (by omega) (w.heap.size + 1 + 1 + 1) (w.heap.size + 1 + 1 + 1 + 1) w.heap.size (cap - m) q bs form hcm (by omega) W0 (by omega) (by omega) (by omega) bB.cell bF.cell (hL.below hbw))
    (fun h k => Kp2.trans h k) (hKb2 (by omega) (by omega) (by omega)) (Below.refl _ _) (fun _ => rfl)
    (Inv w q bs.length (cap - m) form) (Out w) (Inv_own w q bs.length (cap - m) form _ (by omega)) (fun c => Out_own w c _ (by omega))
    ⟨⟨_, bL, World.ownsRow_nil _ _ _ _, trivial⟩, (fun x hx => by cases hx), bR, bE, bB, bF, hbw⟩
    (fun x => { tmps := #[.slice p len cap, undef, .pointer (some ⟨w.heap.size, 0, none⟩), .pointer (some ⟨w.heap.size + 1, 0, none⟩), .int .i64 form, .int .i64 m, .pointer (some ⟨w.heap.size + 1 + 1, 0, none⟩), .int .i64 x.1, .bool x.2, .slice p len cap, .int .i64 len, .bool (decide (1048576 < (len : Int))), .tuple #[.int .i64 form, .int .i64 m], .slice p len cap, .tuple #[.int .i64 form, .int .i64 m], .int .i64 form, .int .i64 m, .slice p len cap, .int .i64 m, .slice q bs.length (cap - m), .int .i64 form, .func (.func 28) #[] #[.pointer (some ⟨w.heap.size + 1 + 1 + 1, 0, none⟩), .pointer (some ⟨w.heap.size + 1 + 1 + 1 + 1, 0, none⟩)], .int .i64 x.1, .bool x.2, undef, undef, undef, undef, undef, undef, undef], defers := [] }) ?assign ?body ?done ?stop
  case assign =>
    intro l x W K hK
    gi_wp2
    exact hK
  case body =>
    clear bR bE bL bB bF hF
    rintro l pre ⟨x, ok⟩ W ⟨⟨v, hv, hrow, -⟩, hall, bR, bE, bB, bF, hB⟩ hlt
    cases ok with
    | false =>
      have cR := bR.cell
      have fR := bR.frozen
      have cE := bE.cell
      have fE := bE.frozen
      gi_wp2
      have k1 : KeepsOthers W ((W.setCell ⟨w.heap.size, 0, none⟩ (.slice none 0 0)).setCell ⟨w.heap.size + 1, 0, none⟩ (.int .i64 4)) := (KeepsOthers.setCell _ _ _).trans (KeepsOthers.setCell _ _ _)
      refine ⟨k1.from _, ⟨rfl, (x, false), by simp, rfl⟩, (bR.set _).other (by omega) _, (bE.other (by omega) _).set _, ?_⟩
      exact (hB.setCell (p := ⟨w.heap.size, 0, none⟩) (Nat.le_refl _) _).setCell (p := ⟨w.heap.size + 1, 0, none⟩) (by show w.heap.size ≤ w.heap.size + 1; omega) _
    | true =>
      have hcl := hv.cell
      have hW5 : w.heap.size + 5 ≤ W.heap.size := by have := bF.lt; omega
      gi_wp2_with (gi_at_builtin; refine wpListIn_append_own _ rfl _ _ 24 rfl (w.heap.size + 5) 3 i0 (.int .i64 0) 1 8 Tryd.underlying24 hi hz0 hz1 hz2 rfl (by decide) _ _ _ rfl (hrow.alloc _) ⟨W.heap.size, 0, none⟩ 1 1 [.int .i64 x] rfl rfl (cell_one_new _ _ _) (by simp [Value.oneCell']) (by unfold maxLen; omega) (by omega) (by simp; omega) ?_; intro v' w1 hown' hgrow _; obtain ⟨g', cap', rfl⟩ := ownsRow_succ hown'; obtain ⟨hv1, hv2, hr2, hk2, hb2⟩ := hv.appended (by decide) (ownsRow_mono hrow (by omega : w.heap.size ≤ w.heap.size + 5)) hB.size (by omega) (ownsRow_mono hown' (by omega : w.heap.size ≤ w.heap.size + 5)) hgrow; have hc1 := hv1.cell; have hf1 := hv1.frozen)
      have hr5 := hown'.kept (grownBy_setCell' w1 (w.heap.size + 1 + 1) (.slice (some ⟨g', 0, none⟩) (pre.length + 1) cap')) (.inr (hv1.not_row (by decide) hown').symm)
      have bR' := past (v' := .slice (some ⟨g', 0, none⟩) (pre.length + 1) cap') (B := w.heap.size + 1 + 1) bR hrow (by omega) hgrow (by omega)
      have bE' := past (v' := .slice (some ⟨g', 0, none⟩) (pre.length + 1) cap') (B := w.heap.size + 1 + 1) bE hrow (by omega) hgrow (by omega)
      have bB' := past (v' := .slice (some ⟨g', 0, none⟩) (pre.length + 1) cap') (B := w.heap.size + 1 + 1) bB hrow (by omega) hgrow (by omega)
      have bF' := past (v' := .slice (some ⟨g', 0, none⟩) (pre.length + 1) cap') (B := w.heap.size + 1 + 1) bF hrow (by omega) hgrow (by omega)
      refine ⟨hk2.from _, ⟨hb2, Eq.trans bB' (Eq.symm bB), Eq.trans bF' (Eq.symm bF)⟩, ⟨_, hv2, ?_, trivial⟩, ?_, bR', bE', bB', bF', hB.trans hb2⟩
      · simpa using hr5
      · intro y hy
        rcases List.mem_append.1 hy with hy | hy
        · exact hall y hy
        · simp at hy; rw [hy]
  case done =>
    rintro D ys W hD rfl ⟨⟨v, hv, hrow, -⟩, hall, bR', bE', -, -, hB⟩ hK
    obtain ⟨a, k, c, rfl⟩ := ownsRow_form hrow
    have hcl := hv.cell
    have cR := bR'.cell
    have fR := bR'.frozen
    have cE := bE'.cell
    have fE := bE'.frozen
    gi_wp2
    have hK2 := ((KeepsOthers.setCell W ⟨w.heap.size, 0, none⟩ (.slice a k c)).trans (KeepsOthers.setCell _ ⟨w.heap.size + 1, 0, none⟩ (.int .i64 0))).same D _ hK rfl
    refine ⟨by simp, .inl ⟨_, _, rfl, run_takeDeferred hK2, ?_⟩⟩
    have bR3 := Boxed.kept ((bR'.set (.slice a k c)).other (B' := w.heap.size + 1) (by omega) (.int .i64 0)) (grownBy_putObj' _ D (.deferred none)) (fun e => by cases e; omega)
    have bE3 := Boxed.kept ((bE'.other (B' := w.heap.size) (by omega) (.slice a k c)).set (.int .i64 0)) (grownBy_putObj' _ D (.deferred none)) (fun e => by cases e; omega)
    have ne : ∀ B', B' < w.heap.size + 5 → (Value.slice a k c).ownBlock ≠ some B' := fun B' hB' e => by have := (hrow.lt _ e).1; omega
    have r1 := hrow.kept (grownBy_setCell' W w.heap.size (.slice a k c)) (.inr (ne _ (by omega)))
    have r2 := r1.kept (grownBy_setCell' _ (w.heap.size + 1) (.int .i64 0)) (.inr (ne _ (by omega)))
    have r3 := ownsRow_putObj r2 (.deferred none) hK2 rfl
    have B1 := (hB.setCell (p := ⟨w.heap.size, 0, none⟩) (Nat.le_refl _) (.slice a k c)).setCell (p := ⟨w.heap.size + 1, 0, none⟩) (by show w.heap.size ≤ w.heap.size + 1; omega) (.int .i64 0)
    have B2 := B1.trans (belowK_b (w := w) (Nat.le_refl _) _ D _ (.deferred none) (by omega) hK2 rfl rfl)
    have cR3 := bR3.cell
    have cE3 := bE3.cell
    generalize ((W.setCell ⟨w.heap.size, 0, none⟩ (.slice a k c)).setCell ⟨w.heap.size + 1, 0, none⟩ (.int .i64 0)).putObj D (.deferred none) = W3 at bR3 bE3 r3 B2 cR3 cE3 ⊢
    refine ⟨.tuple #[.slice a k c, .int .i64 0], ?_, .slice a k c, 0, rfl, B2, .inl ⟨?_, rfl, ?_⟩⟩
    · simp [results, Tryd.results9, go_sem, cR3, cE3]
    · unfold rightP
      simpa using hall
    · have := ownsRow_mono r3 (by omega : w.heap.size ≤ w.heap.size + 5)
      unfold ptsP
      simpa [List.map_map, Function.comp_def] using this
  case stop =>
    rintro D c pre W hD hpre ⟨⟨rfl, x, hx, hx2⟩, bR', bE', hB⟩ hK
    gi_wp2
    refine ⟨by simp, .inl ⟨_, _, rfl, run_takeDeferred hK, ?_⟩⟩
    have bR3 := Boxed.kept bR' (grownBy_putObj' _ D (.deferred none)) (fun e => by cases e; omega)
    have bE3 := Boxed.kept bE' (grownBy_putObj' _ D (.deferred none)) (fun e => by cases e; omega)
    have B2 := hB.trans (belowK_b (w := w) (Nat.le_refl _) _ D _ (.deferred none) (by omega) hK rfl rfl)
    have cR3 := bR3.cell
    have cE3 := bE3.cell
    generalize W.putObj D (.deferred none) = W3 at bR3 bE3 B2 cR3 cE3 ⊢
    refine ⟨.tuple #[.slice none 0 0, .int .i64 4], ?_, .slice none 0 0, 4, rfl, B2, .inr ⟨?_, rfl, rfl⟩⟩
    · simp [results, Tryd.results9, go_sem, cR3, cE3]
    · unfold rightP
      rw [List.all_eq_false]
      exact ⟨x, hpre.subset hx, by simp [hx2]⟩
end Go.Proofs.YtdkodepeglpimaaDoor
