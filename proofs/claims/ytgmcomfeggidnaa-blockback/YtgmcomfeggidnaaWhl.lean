/- wholePoints' iterator: it tells the code points of a text of whole lines, folded or not, for every body. -/
import Derived.Test.YtgmcomfeggidnaaFlw
set_option linter.unusedVariables false
set_option linter.unusedSimpArgs false
namespace Go.Proofs.Ytgmcomfeggidnaa
open Go.RowKit Go.Shelf
attribute [local go_sem] Oper.semAt_some

def reps (c k : Int) : List Int := List.replicate k.toNat c
/-- What stands ahead of the line at place i, behind the one at place b. -/
def sepW (P : List Int → Bool) (g : Nat → List Int) (b : Int) (i : Nat) : List Int :=
  if b < 0 then reps 10 ((i : Int) - b - 1) else if P (g b.toNat) || P (g i) then reps 10 ((i : Int) - b - 1 + 1) else sepI ((i : Int) - b - 1)
theorem betV_form (P : List Int → Bool) (g : Nat → List Int) (b : Int) (i : Nat) : ∃ x y, betV P g b i = .agg #[.int .i64 x, .int .i64 y] := by
  unfold betV
  split
  · exact ⟨_, _, rfl⟩
  · split
    · exact ⟨_, _, rfl⟩
    · exact foldV_form _

theorem rep_bet {n₀ N B l : Nat} {J : (Nat → Prop) → List Int → World → Prop} (hJ : Abx B J) (hY : Rounds n₀ N Try.prog l encI J) (n : Nat) (X : Nat → Prop) (pre : List Int) (W : World) (P : List Int → Bool) (g : Nat → List Int) (b : Int) (i : Nat)
    (h0 : J X pre W) (hn : n₀ ≤ W.heap.size) (hb : -1 ≤ b) (hk : pre.length + 2 + i ≤ N) (hi : i ≤ 1048576) :
    CallsIn Fence.wide n Try.prog 60 #[betV P g b i, .func (.yield l) #[] #[]] W fun e W' => e = .returned (.bool true) ∧ J X (pre ++ sepW P g b i) W' ∧ Kx n₀ l X W W' := by
  unfold betV sepW
  split
  · exact repeat_in hJ hY n X pre W 10 _ h0 hn (by omega) (by omega)
  · split
    · exact repeat_in hJ hY n X pre W 10 _ h0 hn (by omega) (by omega)
    · exact rep_fold hJ hY n X pre W _ h0 hn (by omega) (by omega)

theorem sepW_len (P : List Int → Bool) (g : Nat → List Int) (L : Nat) (b : Int) (i : Nat) (hb : -1 ≤ b) (hi : i < L) : (sepW P g b i).length ≤ L + 1 := by
  unfold sepW reps
  split
  · simp; omega
  · split
    · simp; omega
    · exact sepI_len _ _ (by omega)

/-- How many ends of lines stay at the end. -/
def endN (filled : Bool) (e c : Int) : Int := if c = 2 then (if filled then e + 1 else e) else if c = 1 ∨ filled = false then 0 else 1
theorem endN_le (filled : Bool) (e c : Int) (he : 0 ≤ e) : endN filled e c ≤ e + 1 := by
  unfold endN
  split
  · split <;> omega
  · split <;> omega

/-- The text of whole lines: s: what is told of them. -/
def wholeT (P : List Int → Bool) (R : List Row) (chomp : Int) : List Int :=
  (joinT (sepW P (tAt R)) (tAt R) (told (tellW R) R.length)).1 ++ reps 10 (endN (decide (0 ≤ (joinT (sepW P (tAt R)) (tAt R) (told (tellW R) R.length)).2)) ((R.length : Int) - (joinT (sepW P (tAt R)) (tAt R) (told (tellW R) R.length)).2 - 1) chomp)

/-- The contract of between, with the function that it is handed. -/
def BetOk (hf : Nat) (P : List Int → Bool) (p : Option Addr) (R : List Row) (cap : Nat) : Prop :=
  ∀ (n : Nat) (b : Int) (i : Nat) (w : World), (b = -1 ∨ ∃ j : Nat, b = j ∧ j < R.length ∧ 0 < (tAt R j).length) → i < R.length → 0 < (tAt R i).length → Mt w p R →
    CallsIn Fence.wide n Try.prog 61 #[.slice p R.length cap, .int .i64 b, .int .i64 i, .func (.func hf) #[] #[]] w fun e w' => e = .returned (betV P (tAt R) b i) ∧ w.grownBy w' none

theorem row_at {R : List Row} {i : Nat} (h : i < R.length) : ∃ r, R[i]? = some r := ⟨_, List.getElem?_eq_getElem h⟩
theorem betA_ok (p : Option Addr) (R : List Row) (cap : Nat) (hn : R.length ≤ 1048576) : BetOk 54 alwaysP p R cap := by
  rintro n b i w (rfl | ⟨j, rfl, hj, htj⟩) hi hti hM
  · exact callsIn_wide.2 (betA_none p R cap i w hi (by omega))
  · obtain ⟨rj, hrj⟩ := row_at hj
    obtain ⟨ri, hri⟩ := row_at hi
    rw [tAt_at hrj] at htj
    rw [tAt_at hri] at hti
    exact callsIn_wide.2 (betA_some p R cap j i rj ri w hM hrj hri htj hti (by omega))
theorem betS_ok (p : Option Addr) (R : List Row) (cap : Nat) (hn : R.length ≤ 1048576) : BetOk 53 spacedP p R cap := by
  rintro n b i w (rfl | ⟨j, rfl, hj, htj⟩) hi hti hM
  · exact callsIn_wide.2 (betS_none p R cap i w hi (by omega))
  · obtain ⟨rj, hrj⟩ := row_at hj
    obtain ⟨ri, hri⟩ := row_at hi
    rw [tAt_at hrj] at htj
    rw [tAt_at hri] at hti
    exact callsIn_wide.2 (betS_some p R cap j i rj ri w hM hrj hri htj hti (by omega))

theorem places_E {R : List Row} {g : Nat → List Int} {E : Nat → Prop} (ys : List (Pc R g E)) : ∀ i, i ∈ places ys → E i := by
  intro i hi
  obtain ⟨y, -, rfl⟩ := List.mem_map.1 hi
  exact y.2.1

set_option maxRecDepth 100000 in
set_option maxHeartbeats 2000000 in
theorem whole1_in (n : Nat) (hn : 3 ≤ n) (n₀ N cap Bl Bh Bc l hf : Nat) (P : List Int → Bool) (chomp : Int) (p : Option Addr) (R : List Row) (hR : R.length ≤ 1048576) (hT : ∀ i, (tAt R i).length ≤ 1048576) (hN : 4398046511104 ≤ N)
    (J : (Nat → Prop) → List Int → World → Prop) (X : Nat → Prop) (W : World) (hl : l < W.heap.size) (hn₀ : n₀ ≤ W.heap.size) (hJ : Abx W.heap.size J) (hY : Rounds n₀ N Try.prog l encI J) (hBet : BetOk hf P p R cap)
    (hl0 : Bl < n₀) (hh0 : Bh < n₀) (hc0 : Bc < n₀) (hBl : W.cell? ⟨Bl, 0, none⟩ = some (.slice p R.length cap)) (hBh : W.cell? ⟨Bh, 0, none⟩ = some (.func (.func hf) #[] #[])) (hBc : W.cell? ⟨Bc, 0, none⟩ = some (.int .i64 chomp)) (hM : MtB n₀ W p R) (h0 : J X [] W) :
    CallsIn Fence.wide n Try.prog 58 #[.func (.yield l) #[] #[], .pointer (some ⟨Bl, 0, none⟩), .pointer (some ⟨Bh, 0, none⟩), .pointer (some ⟨Bc, 0, none⟩)] W fun e W' => (∃ v, e = .returned v) ∧ ∃ xs, xs = wholeT P R chomp ∧ J X xs W' := by
  have h1 : 1 ≤ n := by omega
  refine callsIn_of_wp_marks Try.func58 rfl trivial ?_ rfl
  simp only [Try.ntmps58, List.size_toArray, List.length_cons, List.length_nil, Nat.reduceAdd, Nat.reduceSub, Array.replicate_succ, Array.replicate_zero, List.push_toArray, List.append_toArray, List.nil_append, List.cons_append]
  have hBlt := World.block_lt_of_cell? W _ hBl
  gi_wp2_with (first | (refine ⟨trivial, ?_⟩; gi_at_call 59; refine (flines_in _ _ _ _ _).mono ?_; rintro e w' ⟨rfl, rfl⟩))
  change Code.wpIn _ _ _ _ _ _ (w3 W l p R.length cap)
  obtain ⟨hsz, bY, bB, bL, hbw⟩ := w3_facts W l p R.length cap
  have hJ0 := w3_J hJ h0 l p R.length cap
  generalize w3 W l p R.length cap = W0 at hsz bY bB bL hbw hJ0 ⊢
  have hM0 := hM.on (hbw.mono hn₀)
  have cBl := (hbw.cell (p := ⟨Bl, 0, none⟩) (by show Bl < W.heap.size; omega)).trans hBl
  have cBh := (hbw.cell (p := ⟨Bh, 0, none⟩) (by show Bh < W.heap.size; omega)).trans hBh
  have cBc := (hbw.cell (p := ⟨Bc, 0, none⟩) (by show Bc < W.heap.size; omega)).trans hBc
  have x1 : x3 X W.heap.size W.heap.size := .inl (.inl (.inr rfl))
  have x2 : x3 X W.heap.size (W.heap.size + 1) := .inl (.inr rfl)
  refine wpIn_rangeFunc_ownG rfl h1 (gf := 66) (lb := #[.pointer (some ⟨W.heap.size + 1 + 1, 0, none⟩)]) rfl trivial (enters_of Try.func66 (by kernel_rfl) rfl)
    (fl_stops (n - 1) (by omega) (W.heap.size + 1 + 1) n₀ cap p R (by omega) W0 (by omega) (by omega) bL.cell hM0)
    (fun h k => Kp.trans h k) (hKb1 (by omega) (by omega)) (Below.refl _ _) (fun _ => rfl)
    (Inl J (x3 X W.heap.size) (sepW P (tAt R)) n₀ l W.heap.size (W.heap.size + 1) (W.heap.size + 1 + 1) p cap W0) (fun _ _ _ => False)
    (Inl_own hJ (by omega) _ _ _ _ _ _ _ _ _ _ (by omega) (by omega)) (fun c => ownFrom_pure _ _)
    ⟨hJ0, bB, bY, bL, Below.refl _ _⟩
    (fun x => { tmps := #[(.func (.yield l) #[] #[]), (.pointer (some ⟨Bl, 0, none⟩)), (.pointer (some ⟨Bh, 0, none⟩)), (.pointer (some ⟨Bc, 0, none⟩)), (.pointer (some ⟨W.heap.size, 0, none⟩)), (.pointer (some ⟨W.heap.size + 1, 0, none⟩)), (.int .i64 (x.1.1 : Nat)), x.1.2, (.slice p R.length cap), (.func (.func 66) #[] #[.pointer (some ⟨W.heap.size + 1 + 1, 0, none⟩)]), (.int .i64 (x.1.1 : Nat)), x.1.2, undef, undef, undef, undef, undef, undef, undef, undef, undef, undef, undef, undef, undef, undef, undef, undef, undef, undef, undef, undef, undef, undef, undef, undef, undef, undef, undef], defers := [] }) ?assign ?body ?done ?stop
  case assign =>
    intro l1 x W1 K hK
    simp only [encP]
    gi_wp2
    exact hK
  case body =>
    clear bY bB bL hbw hJ0 hBl hBh hBc hM h0
    rintro l1 pre x W1 ⟨hJ1, bB, bY, bL, hB1⟩ hlt
    have hIn : Inl J (x3 X W.heap.size) (sepW P (tAt R)) n₀ l W.heap.size (W.heap.size + 1) (W.heap.size + 1 + 1) p cap W0 pre W1 := ⟨hJ1, bB, bY, bL, hB1⟩
    have RE := fun W4 kx hJ4 => round_end (W4 := W4) x hJ hn₀ (by omega) (by omega) hIn kx hJ4
    have hLen := joinT_len (sepW P (tAt R)) (tAt R) 1048576 R.length hT (fun b i hb hi => sepW_len P _ _ b i hb hi) (places pre) (places_lt pre)
    rw [places_len] at hLen
    have hLen2 : (joinT (sepW P (tAt R)) (tAt R) (places pre)).1.length + 3000000 ≤ N := by
      have : pre.length * (1048576 + R.length + 1) ≤ 1048575 * 2097153 := Nat.mul_le_mul (by omega) (by omega)
      omega
    clear hLen hIn
    obtain ⟨⟨i, v⟩, hE, r, q, c, hr, hv, hsb⟩ := x
    dsimp only at hr hv hsb RE hE ⊢
    subst hv
    have hiR : i < R.length := (List.getElem?_eq_some_iff.1 hr).1
    have hTi := hT i
    have hMt := (hM0.on hB1).1
    have Iq : Is W1 q (tAt R i) := hsb.is ((hM0.on hB1).1.1 i r hr).2.2
    have Bq := hsb.block ((hM0.on hB1).2.2 i r hr)
    have hX1 := fun b hb => hJ.lt _ _ _ b hJ1 hb
    have hs1 : W.heap.size + 3 ≤ W1.heap.size := by have := hB1.size; omega
    have hb2 : (joinT (sepW P (tAt R)) (tAt R) (places pre)).2 = -1 ∨ ∃ j : Nat, (joinT (sepW P (tAt R)) (tAt R) (places pre)).2 = j ∧ j < R.length ∧ 0 < (tAt R j).length := by
      rcases joinT_last (sepW P (tAt R)) (tAt R) (places pre) with ⟨-, hb⟩ | ⟨j, hj, hb⟩
      · exact .inl hb
      · exact .inr ⟨j, hb, places_lt pre j hj, places_E pre j hj⟩
    have hb1 : -1 ≤ (joinT (sepW P (tAt R)) (tAt R) (places pre)).2 := by rcases hb2 with h | ⟨j, h, -⟩ <;> omega
    generalize (joinT (sepW P (tAt R)) (tAt R) (places pre)).1 = T at hJ1 RE hLen2
    generalize (joinT (sepW P (tAt R)) (tAt R) (places pre)).2 = b at bB RE hb1 hb2
    have BT := fun n => hBet n b i W1.drew hb2 hiR hE (hMt.on ((Below.refl _ W1).drew))
    clear hBet hMt hb2
    have hB1d : Below n₀ W0 W1.drew := hB1.drew
    gi_wp2
    refine region_pick (fun w' => Boxed w' (W.heap.size + 1) 3 (.int .i64 b) ∧ Boxed w' W.heap.size 42 (.func (.yield l) #[] #[]) ∧ Below n₀ W0 w') (by kernel_rfl) ?_
    show Any _ _ _ _ _ _ 14 #[false, false, false, false, false, false, false, false, false, false, false, false, false, false] { tmps := #[(.func (.yield l) #[] #[]), (.pointer (some ⟨Bl, 0, none⟩)), (.pointer (some ⟨Bh, 0, none⟩)), (.pointer (some ⟨Bc, 0, none⟩)), (.pointer (some ⟨W.heap.size, 0, none⟩)), (.pointer (some ⟨W.heap.size + 1, 0, none⟩)), (.int .i64 (i : Nat)), (.slice q (tAt R i).length c), (.slice p R.length cap), (.func (.func 66) #[] #[.pointer (some ⟨W.heap.size + 1 + 1, 0, none⟩)]), (.int .i64 (i : Nat)), (.slice q (tAt R i).length c), undef, undef, undef, undef, undef, undef, undef, undef, undef, undef, undef, undef, undef, undef, undef, undef, undef, undef, undef, undef, undef, undef, undef, undef, undef, undef, undef], defers := [] } W1.drew
    refine Any.take (i := 0) (v := (.slice p R.length cap)) (wideR _) rfl (by kernel_rfl) (by kernel_rfl) (by kernel_rfl) (fun _ _ _ h => h) (.inl ⟨rfl, fun w hw => by have := (hw.2.2.cell (p := ⟨Bl, 0, none⟩) hl0).trans cBl; go_simp⟩) ⟨bB, bY, hB1d⟩ ?_
    show Any _ _ _ _ _ _ 13 #[true, false, false, false, false, false, false, false, false, false, false, false, false, false] { tmps := #[(.func (.yield l) #[] #[]), (.pointer (some ⟨Bl, 0, none⟩)), (.pointer (some ⟨Bh, 0, none⟩)), (.pointer (some ⟨Bc, 0, none⟩)), (.pointer (some ⟨W.heap.size, 0, none⟩)), (.pointer (some ⟨W.heap.size + 1, 0, none⟩)), (.int .i64 (i : Nat)), (.slice q (tAt R i).length c), (.slice p R.length cap), (.func (.func 66) #[] #[.pointer (some ⟨W.heap.size + 1 + 1, 0, none⟩)]), (.int .i64 (i : Nat)), (.slice q (tAt R i).length c), (.slice p R.length cap), undef, undef, undef, undef, undef, undef, undef, undef, undef, undef, undef, undef, undef, undef, undef, undef, undef, undef, undef, undef, undef, undef, undef, undef, undef, undef], defers := [] } W1.drew
    refine Any.take (i := 1) (v := (.int .i64 b)) (wideR _) rfl (by kernel_rfl) (by kernel_rfl) (by kernel_rfl) (fun _ _ _ h => h) (.inl ⟨rfl, fun w hw => by have := hw.1.cell; go_simp⟩) ⟨bB, bY, hB1d⟩ ?_
    show Any _ _ _ _ _ _ 12 #[true, true, false, false, false, false, false, false, false, false, false, false, false, false] { tmps := #[(.func (.yield l) #[] #[]), (.pointer (some ⟨Bl, 0, none⟩)), (.pointer (some ⟨Bh, 0, none⟩)), (.pointer (some ⟨Bc, 0, none⟩)), (.pointer (some ⟨W.heap.size, 0, none⟩)), (.pointer (some ⟨W.heap.size + 1, 0, none⟩)), (.int .i64 (i : Nat)), (.slice q (tAt R i).length c), (.slice p R.length cap), (.func (.func 66) #[] #[.pointer (some ⟨W.heap.size + 1 + 1, 0, none⟩)]), (.int .i64 (i : Nat)), (.slice q (tAt R i).length c), (.slice p R.length cap), (.int .i64 b), undef, undef, undef, undef, undef, undef, undef, undef, undef, undef, undef, undef, undef, undef, undef, undef, undef, undef, undef, undef, undef, undef, undef, undef, undef], defers := [] } W1.drew
    refine Any.take (i := 2) (v := (.int .i64 (i : Nat))) (wideR _) rfl (by kernel_rfl) (by kernel_rfl) (by kernel_rfl) (fun _ _ _ h => h) (.inl ⟨rfl, fun w _ => by go_simp⟩) ⟨bB, bY, hB1d⟩ ?_
    show Any _ _ _ _ _ _ 11 #[true, true, true, false, false, false, false, false, false, false, false, false, false, false] { tmps := #[(.func (.yield l) #[] #[]), (.pointer (some ⟨Bl, 0, none⟩)), (.pointer (some ⟨Bh, 0, none⟩)), (.pointer (some ⟨Bc, 0, none⟩)), (.pointer (some ⟨W.heap.size, 0, none⟩)), (.pointer (some ⟨W.heap.size + 1, 0, none⟩)), (.int .i64 (i : Nat)), (.slice q (tAt R i).length c), (.slice p R.length cap), (.func (.func 66) #[] #[.pointer (some ⟨W.heap.size + 1 + 1, 0, none⟩)]), (.int .i64 (i : Nat)), (.slice q (tAt R i).length c), (.slice p R.length cap), (.int .i64 b), (.int .i64 (i : Nat)), undef, undef, undef, undef, undef, undef, undef, undef, undef, undef, undef, undef, undef, undef, undef, undef, undef, undef, undef, undef, undef, undef, undef, undef], defers := [] } W1.drew
    refine Any.take (i := 3) (v := (.func (.func hf) #[] #[])) (wideR _) rfl (by kernel_rfl) (by kernel_rfl) (by kernel_rfl) (fun _ _ _ h => h) (.inl ⟨rfl, fun w hw => by have := (hw.2.2.cell (p := ⟨Bh, 0, none⟩) hh0).trans cBh; go_simp⟩) ⟨bB, bY, hB1d⟩ ?_
    show Any _ _ _ _ _ _ 10 #[true, true, true, true, false, false, false, false, false, false, false, false, false, false] { tmps := #[(.func (.yield l) #[] #[]), (.pointer (some ⟨Bl, 0, none⟩)), (.pointer (some ⟨Bh, 0, none⟩)), (.pointer (some ⟨Bc, 0, none⟩)), (.pointer (some ⟨W.heap.size, 0, none⟩)), (.pointer (some ⟨W.heap.size + 1, 0, none⟩)), (.int .i64 (i : Nat)), (.slice q (tAt R i).length c), (.slice p R.length cap), (.func (.func 66) #[] #[.pointer (some ⟨W.heap.size + 1 + 1, 0, none⟩)]), (.int .i64 (i : Nat)), (.slice q (tAt R i).length c), (.slice p R.length cap), (.int .i64 b), (.int .i64 (i : Nat)), (.func (.func hf) #[] #[]), undef, undef, undef, undef, undef, undef, undef, undef, undef, undef, undef, undef, undef, undef, undef, undef, undef, undef, undef, undef, undef, undef, undef], defers := [] } W1.drew
    refine Any.take (i := 5) (v := (.func (.yield l) #[] #[])) (wideR _) rfl (by kernel_rfl) (by kernel_rfl) (by kernel_rfl) (fun _ _ _ h => h) (.inl ⟨rfl, fun w hw => by have := hw.2.1.cell; go_simp⟩) ⟨bB, bY, hB1d⟩ ?_
    show Any _ _ _ _ _ _ 9 #[true, true, true, true, false, true, false, false, false, false, false, false, false, false] { tmps := #[(.func (.yield l) #[] #[]), (.pointer (some ⟨Bl, 0, none⟩)), (.pointer (some ⟨Bh, 0, none⟩)), (.pointer (some ⟨Bc, 0, none⟩)), (.pointer (some ⟨W.heap.size, 0, none⟩)), (.pointer (some ⟨W.heap.size + 1, 0, none⟩)), (.int .i64 (i : Nat)), (.slice q (tAt R i).length c), (.slice p R.length cap), (.func (.func 66) #[] #[.pointer (some ⟨W.heap.size + 1 + 1, 0, none⟩)]), (.int .i64 (i : Nat)), (.slice q (tAt R i).length c), (.slice p R.length cap), (.int .i64 b), (.int .i64 (i : Nat)), (.func (.func hf) #[] #[]), undef, (.func (.yield l) #[] #[]), undef, undef, undef, undef, undef, undef, undef, undef, undef, undef, undef, undef, undef, undef, undef, undef, undef, undef, undef, undef, undef], defers := [] } W1.drew
    refine Any.one (i := 4) (by kernel_rfl) rfl rfl (fun K hK => ?_)
    go_simp
    refine ⟨trivial, (fun h => by cases h), ?_⟩
    refine (CallsIn.inRound l1 (BT _)).mono ?_
    rintro e W2 ⟨rfl, hg⟩
    have bB2 := Boxed.kept (W := W1.drew) bB hg (by simp)
    have bY2 := Boxed.kept (W := W1.drew) bY hg (by simp)
    have hJ2 := hJ.step _ _ W1.drew W2 none (hJ.drew hJ1) hg (fun r e => by cases e)
    have kx2 : Kx n₀ l (x3 X W.heap.size) W1 W2 := (Kx.drew _ _ _ _).trans (Kx.grown (W := W1.drew) (by show n₀ ≤ W1.heap.size; omega) hX1 hg)
    have hs2 : W.heap.size + 3 ≤ W2.heap.size := Nat.le_trans hs1 kx2.below.size
    have REP := fun n => rep_bet hJ hY n _ _ W2 P (tAt R) b i hJ2 (by omega) hb1 (by omega) (by omega)
    obtain ⟨xa, xb, hfv⟩ := betV_form P (tAt R) b i
    rw [hfv] at REP ⊢
    refine hK _ _ ⟨bB2, bY2, hB1.trans kx2.below⟩ ?_
    clear hK K
    show Any _ _ _ _ _ _ 8 #[true, true, true, true, true, true, false, false, false, false, false, false, false, false] { tmps := #[(.func (.yield l) #[] #[]), (.pointer (some ⟨Bl, 0, none⟩)), (.pointer (some ⟨Bh, 0, none⟩)), (.pointer (some ⟨Bc, 0, none⟩)), (.pointer (some ⟨W.heap.size, 0, none⟩)), (.pointer (some ⟨W.heap.size + 1, 0, none⟩)), (.int .i64 (i : Nat)), (.slice q (tAt R i).length c), (.slice p R.length cap), (.func (.func 66) #[] #[.pointer (some ⟨W.heap.size + 1 + 1, 0, none⟩)]), (.int .i64 (i : Nat)), (.slice q (tAt R i).length c), (.slice p R.length cap), (.int .i64 b), (.int .i64 (i : Nat)), (.func (.func hf) #[] #[]), (.agg #[.int .i64 xa, .int .i64 xb]), (.func (.yield l) #[] #[]), undef, undef, undef, undef, undef, undef, undef, undef, undef, undef, undef, undef, undef, undef, undef, undef, undef, undef, undef, undef, undef], defers := [] } W2
    refine Any.one (i := 6) (by kernel_rfl) rfl rfl (fun K hK => ?_)
    go_simp
    refine ⟨trivial, (fun h => by cases h), ?_⟩
    refine (CallsIn.inRound l1 (REP _)).mono ?_
    rintro e W3 ⟨rfl, hJ3, kx3⟩
    have bB3 := kx3.boxed x2 bB2
    have bY3 := kx3.boxed x1 bY2
    have kx13 := kx2.trans kx3
    have hB3 := hB1.trans kx13.below
    have EA := fun n => each_in hJ hY n _ _ W3 q (tAt R i) c hJ3 (Iq.below Bq kx13.below) Bq (by rw [List.length_append]; have := sepW_len P (tAt R) R.length b i hb1 hiR; omega) (by omega)
    refine hK _ _ ⟨bB3, bY3, hB3⟩ ?_
    clear hK K REP
    show Any _ _ _ _ _ _ 7 #[true, true, true, true, true, true, true, false, false, false, false, false, false, false] { tmps := #[(.func (.yield l) #[] #[]), (.pointer (some ⟨Bl, 0, none⟩)), (.pointer (some ⟨Bh, 0, none⟩)), (.pointer (some ⟨Bc, 0, none⟩)), (.pointer (some ⟨W.heap.size, 0, none⟩)), (.pointer (some ⟨W.heap.size + 1, 0, none⟩)), (.int .i64 (i : Nat)), (.slice q (tAt R i).length c), (.slice p R.length cap), (.func (.func 66) #[] #[.pointer (some ⟨W.heap.size + 1 + 1, 0, none⟩)]), (.int .i64 (i : Nat)), (.slice q (tAt R i).length c), (.slice p R.length cap), (.int .i64 b), (.int .i64 (i : Nat)), (.func (.func hf) #[] #[]), (.agg #[.int .i64 xa, .int .i64 xb]), (.func (.yield l) #[] #[]), (.bool true), undef, undef, undef, undef, undef, undef, undef, undef, undef, undef, undef, undef, undef, undef, undef, undef, undef, undef, undef, undef], defers := [] } W3
    refine Any.take (i := 7) (v := (.bool false)) (wideR _) rfl (by kernel_rfl) (by kernel_rfl) (by kernel_rfl) (fun _ _ _ h => h) (.inl ⟨rfl, fun w _ => by go_simp⟩) ⟨bB3, bY3, hB3⟩ ?_
    show Any _ _ _ _ _ _ 6 #[true, true, true, true, true, true, true, true, false, false, false, false, false, false] { tmps := #[(.func (.yield l) #[] #[]), (.pointer (some ⟨Bl, 0, none⟩)), (.pointer (some ⟨Bh, 0, none⟩)), (.pointer (some ⟨Bc, 0, none⟩)), (.pointer (some ⟨W.heap.size, 0, none⟩)), (.pointer (some ⟨W.heap.size + 1, 0, none⟩)), (.int .i64 (i : Nat)), (.slice q (tAt R i).length c), (.slice p R.length cap), (.func (.func 66) #[] #[.pointer (some ⟨W.heap.size + 1 + 1, 0, none⟩)]), (.int .i64 (i : Nat)), (.slice q (tAt R i).length c), (.slice p R.length cap), (.int .i64 b), (.int .i64 (i : Nat)), (.func (.func hf) #[] #[]), (.agg #[.int .i64 xa, .int .i64 xb]), (.func (.yield l) #[] #[]), (.bool true), (.bool false), undef, undef, undef, undef, undef, undef, undef, undef, undef, undef, undef, undef, undef, undef, undef, undef, undef, undef, undef], defers := [] } W3
    refine Any.take (i := 8) (v := (.bool false)) (wideR _) rfl (by kernel_rfl) (by kernel_rfl) (by kernel_rfl) (fun _ _ _ h => h) (.inl ⟨rfl, fun w _ => by go_simp⟩) ⟨bB3, bY3, hB3⟩ ?_
    show Any _ _ _ _ _ _ 5 #[true, true, true, true, true, true, true, true, true, false, false, false, false, false] { tmps := #[(.func (.yield l) #[] #[]), (.pointer (some ⟨Bl, 0, none⟩)), (.pointer (some ⟨Bh, 0, none⟩)), (.pointer (some ⟨Bc, 0, none⟩)), (.pointer (some ⟨W.heap.size, 0, none⟩)), (.pointer (some ⟨W.heap.size + 1, 0, none⟩)), (.int .i64 (i : Nat)), (.slice q (tAt R i).length c), (.slice p R.length cap), (.func (.func 66) #[] #[.pointer (some ⟨W.heap.size + 1 + 1, 0, none⟩)]), (.int .i64 (i : Nat)), (.slice q (tAt R i).length c), (.slice p R.length cap), (.int .i64 b), (.int .i64 (i : Nat)), (.func (.func hf) #[] #[]), (.agg #[.int .i64 xa, .int .i64 xb]), (.func (.yield l) #[] #[]), (.bool true), (.bool false), (.bool false), undef, undef, undef, undef, undef, undef, undef, undef, undef, undef, undef, undef, undef, undef, undef, undef, undef, undef], defers := [] } W3
    refine Any.take (i := 9) (v := (.slice q (tAt R i).length c)) (wideR _) rfl (by kernel_rfl) (by kernel_rfl) (by kernel_rfl) (fun _ _ _ h => h) (.inl ⟨rfl, fun w _ => by go_simp⟩) ⟨bB3, bY3, hB3⟩ ?_
    show Any _ _ _ _ _ _ 4 #[true, true, true, true, true, true, true, true, true, true, false, false, false, false] { tmps := #[(.func (.yield l) #[] #[]), (.pointer (some ⟨Bl, 0, none⟩)), (.pointer (some ⟨Bh, 0, none⟩)), (.pointer (some ⟨Bc, 0, none⟩)), (.pointer (some ⟨W.heap.size, 0, none⟩)), (.pointer (some ⟨W.heap.size + 1, 0, none⟩)), (.int .i64 (i : Nat)), (.slice q (tAt R i).length c), (.slice p R.length cap), (.func (.func 66) #[] #[.pointer (some ⟨W.heap.size + 1 + 1, 0, none⟩)]), (.int .i64 (i : Nat)), (.slice q (tAt R i).length c), (.slice p R.length cap), (.int .i64 b), (.int .i64 (i : Nat)), (.func (.func hf) #[] #[]), (.agg #[.int .i64 xa, .int .i64 xb]), (.func (.yield l) #[] #[]), (.bool true), (.bool false), (.bool false), (.slice q (tAt R i).length c), undef, undef, undef, undef, undef, undef, undef, undef, undef, undef, undef, undef, undef, undef, undef, undef, undef], defers := [] } W3
    refine Any.take (i := 10) (v := (.func (.yield l) #[] #[])) (wideR _) rfl (by kernel_rfl) (by kernel_rfl) (by kernel_rfl) (fun _ _ _ h => h) (.inl ⟨rfl, fun w hw => by have := hw.2.1.cell; go_simp⟩) ⟨bB3, bY3, hB3⟩ ?_
    show Any _ _ _ _ _ _ 3 #[true, true, true, true, true, true, true, true, true, true, true, false, false, false] { tmps := #[(.func (.yield l) #[] #[]), (.pointer (some ⟨Bl, 0, none⟩)), (.pointer (some ⟨Bh, 0, none⟩)), (.pointer (some ⟨Bc, 0, none⟩)), (.pointer (some ⟨W.heap.size, 0, none⟩)), (.pointer (some ⟨W.heap.size + 1, 0, none⟩)), (.int .i64 (i : Nat)), (.slice q (tAt R i).length c), (.slice p R.length cap), (.func (.func 66) #[] #[.pointer (some ⟨W.heap.size + 1 + 1, 0, none⟩)]), (.int .i64 (i : Nat)), (.slice q (tAt R i).length c), (.slice p R.length cap), (.int .i64 b), (.int .i64 (i : Nat)), (.func (.func hf) #[] #[]), (.agg #[.int .i64 xa, .int .i64 xb]), (.func (.yield l) #[] #[]), (.bool true), (.bool false), (.bool false), (.slice q (tAt R i).length c), (.func (.yield l) #[] #[]), undef, undef, undef, undef, undef, undef, undef, undef, undef, undef, undef, undef, undef, undef, undef, undef], defers := [] } W3
    refine Any.one (i := 11) (by kernel_rfl) rfl rfl (fun K hK => ?_)
    go_simp
    refine ⟨trivial, (fun h => by cases h), ?_⟩
    refine (CallsIn.inRound l1 (EA _)).mono ?_
    rintro e W4 ⟨rfl, hJ4, kx4⟩
    have bB4 := kx4.boxed x2 bB3
    have bY4 := kx4.boxed x1 bY3
    have kx14 := kx13.trans kx4
    have hB4 := hB1.trans kx14.below
    refine hK _ _ ⟨bB4, bY4, hB4⟩ ?_
    clear hK K EA
    show Any _ _ _ _ _ _ 2 #[true, true, true, true, true, true, true, true, true, true, true, true, false, false] { tmps := #[(.func (.yield l) #[] #[]), (.pointer (some ⟨Bl, 0, none⟩)), (.pointer (some ⟨Bh, 0, none⟩)), (.pointer (some ⟨Bc, 0, none⟩)), (.pointer (some ⟨W.heap.size, 0, none⟩)), (.pointer (some ⟨W.heap.size + 1, 0, none⟩)), (.int .i64 (i : Nat)), (.slice q (tAt R i).length c), (.slice p R.length cap), (.func (.func 66) #[] #[.pointer (some ⟨W.heap.size + 1 + 1, 0, none⟩)]), (.int .i64 (i : Nat)), (.slice q (tAt R i).length c), (.slice p R.length cap), (.int .i64 b), (.int .i64 (i : Nat)), (.func (.func hf) #[] #[]), (.agg #[.int .i64 xa, .int .i64 xb]), (.func (.yield l) #[] #[]), (.bool true), (.bool false), (.bool false), (.slice q (tAt R i).length c), (.func (.yield l) #[] #[]), (.bool true), undef, undef, undef, undef, undef, undef, undef, undef, undef, undef, undef, undef, undef, undef, undef], defers := [] } W4
    refine Any.take (i := 12) (v := (.bool false)) (wideR _) rfl (by kernel_rfl) (by kernel_rfl) (by kernel_rfl) (fun _ _ _ h => h) (.inl ⟨rfl, fun w _ => by go_simp⟩) ⟨bB4, bY4, hB4⟩ ?_
    show Any _ _ _ _ _ _ 1 #[true, true, true, true, true, true, true, true, true, true, true, true, true, false] { tmps := #[(.func (.yield l) #[] #[]), (.pointer (some ⟨Bl, 0, none⟩)), (.pointer (some ⟨Bh, 0, none⟩)), (.pointer (some ⟨Bc, 0, none⟩)), (.pointer (some ⟨W.heap.size, 0, none⟩)), (.pointer (some ⟨W.heap.size + 1, 0, none⟩)), (.int .i64 (i : Nat)), (.slice q (tAt R i).length c), (.slice p R.length cap), (.func (.func 66) #[] #[.pointer (some ⟨W.heap.size + 1 + 1, 0, none⟩)]), (.int .i64 (i : Nat)), (.slice q (tAt R i).length c), (.slice p R.length cap), (.int .i64 b), (.int .i64 (i : Nat)), (.func (.func hf) #[] #[]), (.agg #[.int .i64 xa, .int .i64 xb]), (.func (.yield l) #[] #[]), (.bool true), (.bool false), (.bool false), (.slice q (tAt R i).length c), (.func (.yield l) #[] #[]), (.bool true), (.bool false), undef, undef, undef, undef, undef, undef, undef, undef, undef, undef, undef, undef, undef, undef], defers := [] } W4
    refine Any.take (i := 13) (v := (.bool false)) (wideR _) rfl (by kernel_rfl) (by kernel_rfl) (by kernel_rfl) (fun _ _ _ h => h) (.inl ⟨rfl, fun w _ => by go_simp⟩) ⟨bB4, bY4, hB4⟩ ?_
    show Any _ _ _ _ _ _ 0 #[true, true, true, true, true, true, true, true, true, true, true, true, true, true] { tmps := #[(.func (.yield l) #[] #[]), (.pointer (some ⟨Bl, 0, none⟩)), (.pointer (some ⟨Bh, 0, none⟩)), (.pointer (some ⟨Bc, 0, none⟩)), (.pointer (some ⟨W.heap.size, 0, none⟩)), (.pointer (some ⟨W.heap.size + 1, 0, none⟩)), (.int .i64 (i : Nat)), (.slice q (tAt R i).length c), (.slice p R.length cap), (.func (.func 66) #[] #[.pointer (some ⟨W.heap.size + 1 + 1, 0, none⟩)]), (.int .i64 (i : Nat)), (.slice q (tAt R i).length c), (.slice p R.length cap), (.int .i64 b), (.int .i64 (i : Nat)), (.func (.func hf) #[] #[]), (.agg #[.int .i64 xa, .int .i64 xb]), (.func (.yield l) #[] #[]), (.bool true), (.bool false), (.bool false), (.slice q (tAt R i).length c), (.func (.yield l) #[] #[]), (.bool true), (.bool false), (.bool false), undef, undef, undef, undef, undef, undef, undef, undef, undef, undef, undef, undef, undef], defers := [] } W4
    refine Any.done (by kernel_rfl) ?_
    have cB4 := bB4.cell
    have fB4 := bB4.frozen
    gi_wp2
    exact (RE W4 kx14 hJ4).out
  case done =>
    rintro D ys W1 hD hys ⟨hJ1, bB, bY, bL, hB1⟩ hK
    have hLen := joinT_len (sepW P (tAt R)) (tAt R) 1048576 R.length hT (fun b i hb hi => sepW_len P _ _ b i hb hi) (places ys) (places_lt ys)
    have hyl : (places ys).length ≤ R.length := by rw [hys]; exact told_len _ _
    have hLen2 : (joinT (sepW P (tAt R)) (tAt R) (places ys)).1.length + 3000000 ≤ N := by
      have : (places ys).length * (1048576 + R.length + 1) ≤ 1048576 * 2097153 := Nat.mul_le_mul (by omega) (by omega)
      omega
    have hb2 : -1 ≤ (joinT (sepW P (tAt R)) (tAt R) (places ys)).2 ∧ (joinT (sepW P (tAt R)) (tAt R) (places ys)).2 < R.length := by
      rcases joinT_last (sepW P (tAt R)) (tAt R) (places ys) with ⟨-, hb⟩ | ⟨j, hj, hb⟩
      · omega
      · have := places_lt ys j hj; omega
    have HW : Hid (wholeT P R chomp = (joinT (sepW P (tAt R)) (tAt R) (places ys)).1 ++ reps 10 (endN (decide (0 ≤ (joinT (sepW P (tAt R)) (tAt R) (places ys)).2)) ((R.length : Int) - (joinT (sepW P (tAt R)) (tAt R) (places ys)).2 - 1) chomp)) := by
      show _ = _
      rw [hys]
      rfl
    generalize (joinT (sepW P (tAt R)) (tAt R) (places ys)).1 = T at hJ1 hLen2 HW
    generalize (joinT (sepW P (tAt R)) (tAt R) (places ys)).2 = b at bB hb2 HW
    have e5 := wrapi ((R.length : Int) - b) (by omega) (by omega)
    have e6 := wrapi ((R.length : Int) - b - 1) (by omega) (by omega)
    have hel := endN_le (decide (0 ≤ b)) ((R.length : Int) - b - 1) chomp (by omega)
    have hs1 : W.heap.size + 3 ≤ W1.heap.size := by have := hB1.size; omega
    have REP := fun n => repeat_in hJ hY n _ _ W1.drew 10 (endN (decide (0 ≤ b)) ((R.length : Int) - b - 1) chomp) (hJ.drew hJ1) (by show n₀ ≤ W1.heap.size; omega) (by omega) (by omega)
    clear hLen hys hyl hBet
    have hB1d : Below n₀ W0 W1.drew := hB1.drew
    gi_wp2
    refine region_pickN (fun w' => Boxed w' (W.heap.size + 1) 3 (.int .i64 b) ∧ Boxed w' W.heap.size 42 (.func (.yield l) #[] #[]) ∧ Below n₀ W0 w') (by kernel_rfl) ?_
    show Any _ _ _ _ _ _ 12 #[false, false, false, false, false, false, false, false, false, false, false, false] { tmps := #[(.func (.yield l) #[] #[]), (.pointer (some ⟨Bl, 0, none⟩)), (.pointer (some ⟨Bh, 0, none⟩)), (.pointer (some ⟨Bc, 0, none⟩)), (.pointer (some ⟨W.heap.size, 0, none⟩)), (.pointer (some ⟨W.heap.size + 1, 0, none⟩)), undef, undef, (.slice p R.length cap), (.func (.func 66) #[] #[.pointer (some ⟨W.heap.size + 1 + 1, 0, none⟩)]), undef, undef, undef, undef, undef, undef, undef, undef, undef, undef, undef, undef, undef, undef, undef, undef, undef, undef, undef, undef, undef, undef, undef, undef, undef, undef, undef, undef, undef], defers := _ } W1.drew
    refine Any.take (i := 0) (v := (.int .i64 b)) wideF rfl (by kernel_rfl) (by kernel_rfl) (by kernel_rfl) (fun _ _ _ h => h) (.inl ⟨rfl, fun w hw => by have := hw.1.cell; go_simp⟩) ⟨bB, bY, hB1d⟩ ?_
    show Any _ _ _ _ _ _ 11 #[true, false, false, false, false, false, false, false, false, false, false, false] { tmps := #[(.func (.yield l) #[] #[]), (.pointer (some ⟨Bl, 0, none⟩)), (.pointer (some ⟨Bh, 0, none⟩)), (.pointer (some ⟨Bc, 0, none⟩)), (.pointer (some ⟨W.heap.size, 0, none⟩)), (.pointer (some ⟨W.heap.size + 1, 0, none⟩)), undef, undef, (.slice p R.length cap), (.func (.func 66) #[] #[.pointer (some ⟨W.heap.size + 1 + 1, 0, none⟩)]), undef, undef, undef, undef, undef, undef, undef, undef, undef, undef, undef, undef, undef, undef, undef, undef, undef, (.int .i64 b), undef, undef, undef, undef, undef, undef, undef, undef, undef, undef, undef], defers := _ } W1.drew
    refine Any.take (i := 1) (v := (.bool (decide (0 ≤ b)))) wideF rfl (by kernel_rfl) (by kernel_rfl) (by kernel_rfl) (fun _ _ _ h => h) (.inl ⟨rfl, fun w _ => by go_simp⟩) ⟨bB, bY, hB1d⟩ ?_
    show Any _ _ _ _ _ _ 10 #[true, true, false, false, false, false, false, false, false, false, false, false] { tmps := #[(.func (.yield l) #[] #[]), (.pointer (some ⟨Bl, 0, none⟩)), (.pointer (some ⟨Bh, 0, none⟩)), (.pointer (some ⟨Bc, 0, none⟩)), (.pointer (some ⟨W.heap.size, 0, none⟩)), (.pointer (some ⟨W.heap.size + 1, 0, none⟩)), undef, undef, (.slice p R.length cap), (.func (.func 66) #[] #[.pointer (some ⟨W.heap.size + 1 + 1, 0, none⟩)]), undef, undef, undef, undef, undef, undef, undef, undef, undef, undef, undef, undef, undef, undef, undef, undef, undef, (.int .i64 b), (.bool (decide (0 ≤ b))), undef, undef, undef, undef, undef, undef, undef, undef, undef, undef], defers := _ } W1.drew
    refine Any.take (i := 2) (v := (.slice p R.length cap)) wideF rfl (by kernel_rfl) (by kernel_rfl) (by kernel_rfl) (fun _ _ _ h => h) (.inl ⟨rfl, fun w hw => by have := (hw.2.2.cell (p := ⟨Bl, 0, none⟩) hl0).trans cBl; go_simp⟩) ⟨bB, bY, hB1d⟩ ?_
    show Any _ _ _ _ _ _ 9 #[true, true, true, false, false, false, false, false, false, false, false, false] { tmps := #[(.func (.yield l) #[] #[]), (.pointer (some ⟨Bl, 0, none⟩)), (.pointer (some ⟨Bh, 0, none⟩)), (.pointer (some ⟨Bc, 0, none⟩)), (.pointer (some ⟨W.heap.size, 0, none⟩)), (.pointer (some ⟨W.heap.size + 1, 0, none⟩)), undef, undef, (.slice p R.length cap), (.func (.func 66) #[] #[.pointer (some ⟨W.heap.size + 1 + 1, 0, none⟩)]), undef, undef, undef, undef, undef, undef, undef, undef, undef, undef, undef, undef, undef, undef, undef, undef, undef, (.int .i64 b), (.bool (decide (0 ≤ b))), (.slice p R.length cap), undef, undef, undef, undef, undef, undef, undef, undef, undef], defers := _ } W1.drew
    refine Any.take (i := 3) (v := (.int .i64 (R.length : Nat))) wideF rfl (by kernel_rfl) (by kernel_rfl) (by kernel_rfl) (fun _ _ _ h => h) (.inl ⟨rfl, fun w _ => by go_simp⟩) ⟨bB, bY, hB1d⟩ ?_
    show Any _ _ _ _ _ _ 8 #[true, true, true, true, false, false, false, false, false, false, false, false] { tmps := #[(.func (.yield l) #[] #[]), (.pointer (some ⟨Bl, 0, none⟩)), (.pointer (some ⟨Bh, 0, none⟩)), (.pointer (some ⟨Bc, 0, none⟩)), (.pointer (some ⟨W.heap.size, 0, none⟩)), (.pointer (some ⟨W.heap.size + 1, 0, none⟩)), undef, undef, (.slice p R.length cap), (.func (.func 66) #[] #[.pointer (some ⟨W.heap.size + 1 + 1, 0, none⟩)]), undef, undef, undef, undef, undef, undef, undef, undef, undef, undef, undef, undef, undef, undef, undef, undef, undef, (.int .i64 b), (.bool (decide (0 ≤ b))), (.slice p R.length cap), (.int .i64 (R.length : Nat)), undef, undef, undef, undef, undef, undef, undef, undef], defers := _ } W1.drew
    refine Any.take (i := 4) (v := (.int .i64 b)) wideF rfl (by kernel_rfl) (by kernel_rfl) (by kernel_rfl) (fun _ _ _ h => h) (.inl ⟨rfl, fun w hw => by have := hw.1.cell; go_simp⟩) ⟨bB, bY, hB1d⟩ ?_
    show Any _ _ _ _ _ _ 7 #[true, true, true, true, true, false, false, false, false, false, false, false] { tmps := #[(.func (.yield l) #[] #[]), (.pointer (some ⟨Bl, 0, none⟩)), (.pointer (some ⟨Bh, 0, none⟩)), (.pointer (some ⟨Bc, 0, none⟩)), (.pointer (some ⟨W.heap.size, 0, none⟩)), (.pointer (some ⟨W.heap.size + 1, 0, none⟩)), undef, undef, (.slice p R.length cap), (.func (.func 66) #[] #[.pointer (some ⟨W.heap.size + 1 + 1, 0, none⟩)]), undef, undef, undef, undef, undef, undef, undef, undef, undef, undef, undef, undef, undef, undef, undef, undef, undef, (.int .i64 b), (.bool (decide (0 ≤ b))), (.slice p R.length cap), (.int .i64 (R.length : Nat)), (.int .i64 b), undef, undef, undef, undef, undef, undef, undef], defers := _ } W1.drew
    refine Any.take (i := 5) (v := (.int .i64 ((R.length : Int) - b))) wideF rfl (by kernel_rfl) (by kernel_rfl) (by kernel_rfl) (fun _ _ _ h => h) (.inl ⟨rfl, fun w _ => by go_simp⟩) ⟨bB, bY, hB1d⟩ ?_
    show Any _ _ _ _ _ _ 6 #[true, true, true, true, true, true, false, false, false, false, false, false] { tmps := #[(.func (.yield l) #[] #[]), (.pointer (some ⟨Bl, 0, none⟩)), (.pointer (some ⟨Bh, 0, none⟩)), (.pointer (some ⟨Bc, 0, none⟩)), (.pointer (some ⟨W.heap.size, 0, none⟩)), (.pointer (some ⟨W.heap.size + 1, 0, none⟩)), undef, undef, (.slice p R.length cap), (.func (.func 66) #[] #[.pointer (some ⟨W.heap.size + 1 + 1, 0, none⟩)]), undef, undef, undef, undef, undef, undef, undef, undef, undef, undef, undef, undef, undef, undef, undef, undef, undef, (.int .i64 b), (.bool (decide (0 ≤ b))), (.slice p R.length cap), (.int .i64 (R.length : Nat)), (.int .i64 b), (.int .i64 ((R.length : Int) - b)), undef, undef, undef, undef, undef, undef], defers := _ } W1.drew
    refine Any.take (i := 6) (v := (.int .i64 ((R.length : Int) - b - 1))) wideF rfl (by kernel_rfl) (by kernel_rfl) (by kernel_rfl) (fun _ _ _ h => h) (.inl ⟨rfl, fun w _ => by go_simp⟩) ⟨bB, bY, hB1d⟩ ?_
    show Any _ _ _ _ _ _ 5 #[true, true, true, true, true, true, true, false, false, false, false, false] { tmps := #[(.func (.yield l) #[] #[]), (.pointer (some ⟨Bl, 0, none⟩)), (.pointer (some ⟨Bh, 0, none⟩)), (.pointer (some ⟨Bc, 0, none⟩)), (.pointer (some ⟨W.heap.size, 0, none⟩)), (.pointer (some ⟨W.heap.size + 1, 0, none⟩)), undef, undef, (.slice p R.length cap), (.func (.func 66) #[] #[.pointer (some ⟨W.heap.size + 1 + 1, 0, none⟩)]), undef, undef, undef, undef, undef, undef, undef, undef, undef, undef, undef, undef, undef, undef, undef, undef, undef, (.int .i64 b), (.bool (decide (0 ≤ b))), (.slice p R.length cap), (.int .i64 (R.length : Nat)), (.int .i64 b), (.int .i64 ((R.length : Int) - b)), (.int .i64 ((R.length : Int) - b - 1)), undef, undef, undef, undef, undef], defers := _ } W1.drew
    refine Any.take (i := 7) (v := (.int .i64 chomp)) wideF rfl (by kernel_rfl) (by kernel_rfl) (by kernel_rfl) (fun _ _ _ h => h) (.inl ⟨rfl, fun w hw => by have := (hw.2.2.cell (p := ⟨Bc, 0, none⟩) hc0).trans cBc; go_simp⟩) ⟨bB, bY, hB1d⟩ ?_
    show Any _ _ _ _ _ _ 4 #[true, true, true, true, true, true, true, true, false, false, false, false] { tmps := #[(.func (.yield l) #[] #[]), (.pointer (some ⟨Bl, 0, none⟩)), (.pointer (some ⟨Bh, 0, none⟩)), (.pointer (some ⟨Bc, 0, none⟩)), (.pointer (some ⟨W.heap.size, 0, none⟩)), (.pointer (some ⟨W.heap.size + 1, 0, none⟩)), undef, undef, (.slice p R.length cap), (.func (.func 66) #[] #[.pointer (some ⟨W.heap.size + 1 + 1, 0, none⟩)]), undef, undef, undef, undef, undef, undef, undef, undef, undef, undef, undef, undef, undef, undef, undef, undef, undef, (.int .i64 b), (.bool (decide (0 ≤ b))), (.slice p R.length cap), (.int .i64 (R.length : Nat)), (.int .i64 b), (.int .i64 ((R.length : Int) - b)), (.int .i64 ((R.length : Int) - b - 1)), (.int .i64 chomp), undef, undef, undef, undef], defers := _ } W1.drew
    refine Any.take (i := 10) (v := (.func (.yield l) #[] #[])) wideF rfl (by kernel_rfl) (by kernel_rfl) (by kernel_rfl) (fun _ _ _ h => h) (.inl ⟨rfl, fun w hw => by have := hw.2.1.cell; go_simp⟩) ⟨bB, bY, hB1d⟩ ?_
    show Any _ _ _ _ _ _ 3 #[true, true, true, true, true, true, true, true, false, false, true, false] { tmps := #[(.func (.yield l) #[] #[]), (.pointer (some ⟨Bl, 0, none⟩)), (.pointer (some ⟨Bh, 0, none⟩)), (.pointer (some ⟨Bc, 0, none⟩)), (.pointer (some ⟨W.heap.size, 0, none⟩)), (.pointer (some ⟨W.heap.size + 1, 0, none⟩)), undef, undef, (.slice p R.length cap), (.func (.func 66) #[] #[.pointer (some ⟨W.heap.size + 1 + 1, 0, none⟩)]), undef, undef, undef, undef, undef, undef, undef, undef, undef, undef, undef, undef, undef, undef, undef, undef, undef, (.int .i64 b), (.bool (decide (0 ≤ b))), (.slice p R.length cap), (.int .i64 (R.length : Nat)), (.int .i64 b), (.int .i64 ((R.length : Int) - b)), (.int .i64 ((R.length : Int) - b - 1)), (.int .i64 chomp), undef, undef, (.func (.yield l) #[] #[]), undef], defers := _ } W1.drew
    refine Any.one (i := 8) (by kernel_rfl) rfl rfl (fun K hK => ?_)
    go_simp
    refine ⟨trivial, ?_⟩
    refine (callsIn_wide.2 (endSize_any (decide (0 ≤ b)) ((R.length : Int) - b - 1) chomp W1.drew (by omega) (by omega))).mono ?_
    rintro e w2 ⟨rfl, rfl⟩
    refine hK _ _ ⟨bB, bY, hB1d⟩ ?_
    clear hK K
    show Any _ _ _ _ _ _ 2 #[true, true, true, true, true, true, true, true, true, false, true, false] { tmps := #[(.func (.yield l) #[] #[]), (.pointer (some ⟨Bl, 0, none⟩)), (.pointer (some ⟨Bh, 0, none⟩)), (.pointer (some ⟨Bc, 0, none⟩)), (.pointer (some ⟨W.heap.size, 0, none⟩)), (.pointer (some ⟨W.heap.size + 1, 0, none⟩)), undef, undef, (.slice p R.length cap), (.func (.func 66) #[] #[.pointer (some ⟨W.heap.size + 1 + 1, 0, none⟩)]), undef, undef, undef, undef, undef, undef, undef, undef, undef, undef, undef, undef, undef, undef, undef, undef, undef, (.int .i64 b), (.bool (decide (0 ≤ b))), (.slice p R.length cap), (.int .i64 (R.length : Nat)), (.int .i64 b), (.int .i64 ((R.length : Int) - b)), (.int .i64 ((R.length : Int) - b - 1)), (.int .i64 chomp), (.int .i64 (endN (decide (0 ≤ b)) ((R.length : Int) - b - 1) chomp)), undef, (.func (.yield l) #[] #[]), undef], defers := _ } W1.drew
    refine Any.take (i := 9) (v := (.agg #[.int .i64 10, .int .i64 (endN (decide (0 ≤ b)) ((R.length : Int) - b - 1) chomp)])) wideF rfl (by kernel_rfl) (by kernel_rfl) (by kernel_rfl) (fun _ _ _ h => h) (.inl ⟨rfl, fun w _ => by go_simp⟩) ⟨bB, bY, hB1d⟩ ?_
    show Any _ _ _ _ _ _ 1 #[true, true, true, true, true, true, true, true, true, true, true, false] { tmps := #[(.func (.yield l) #[] #[]), (.pointer (some ⟨Bl, 0, none⟩)), (.pointer (some ⟨Bh, 0, none⟩)), (.pointer (some ⟨Bc, 0, none⟩)), (.pointer (some ⟨W.heap.size, 0, none⟩)), (.pointer (some ⟨W.heap.size + 1, 0, none⟩)), undef, undef, (.slice p R.length cap), (.func (.func 66) #[] #[.pointer (some ⟨W.heap.size + 1 + 1, 0, none⟩)]), undef, undef, undef, undef, undef, undef, undef, undef, undef, undef, undef, undef, undef, undef, undef, undef, undef, (.int .i64 b), (.bool (decide (0 ≤ b))), (.slice p R.length cap), (.int .i64 (R.length : Nat)), (.int .i64 b), (.int .i64 ((R.length : Int) - b)), (.int .i64 ((R.length : Int) - b - 1)), (.int .i64 chomp), (.int .i64 (endN (decide (0 ≤ b)) ((R.length : Int) - b - 1) chomp)), (.agg #[.int .i64 10, .int .i64 (endN (decide (0 ≤ b)) ((R.length : Int) - b - 1) chomp)]), (.func (.yield l) #[] #[]), undef], defers := _ } W1.drew
    refine Any.one (i := 11) (by kernel_rfl) rfl rfl (fun K hK => ?_)
    go_simp
    refine ⟨trivial, ?_⟩
    refine (REP _).mono ?_
    rintro e W3 ⟨rfl, hJ3, kx3⟩
    refine hK _ _ ⟨kx3.boxed (A := W1.drew) x2 bB, kx3.boxed (A := W1.drew) x1 bY, hB1.trans (((Kx.drew _ _ _ _).trans kx3 : Kx n₀ l (x3 X W.heap.size) W1 W3).below)⟩ ?_
    clear hK K REP
    show Any _ _ _ _ _ _ 0 #[true, true, true, true, true, true, true, true, true, true, true, true] { tmps := #[(.func (.yield l) #[] #[]), (.pointer (some ⟨Bl, 0, none⟩)), (.pointer (some ⟨Bh, 0, none⟩)), (.pointer (some ⟨Bc, 0, none⟩)), (.pointer (some ⟨W.heap.size, 0, none⟩)), (.pointer (some ⟨W.heap.size + 1, 0, none⟩)), undef, undef, (.slice p R.length cap), (.func (.func 66) #[] #[.pointer (some ⟨W.heap.size + 1 + 1, 0, none⟩)]), undef, undef, undef, undef, undef, undef, undef, undef, undef, undef, undef, undef, undef, undef, undef, undef, undef, (.int .i64 b), (.bool (decide (0 ≤ b))), (.slice p R.length cap), (.int .i64 (R.length : Nat)), (.int .i64 b), (.int .i64 ((R.length : Int) - b)), (.int .i64 ((R.length : Int) - b - 1)), (.int .i64 chomp), (.int .i64 (endN (decide (0 ≤ b)) ((R.length : Int) - b - 1) chomp)), (.agg #[.int .i64 10, .int .i64 (endN (decide (0 ≤ b)) ((R.length : Int) - b - 1) chomp)]), (.func (.yield l) #[] #[]), (.bool true)], defers := _ } W3
    refine Any.done (by kernel_rfl) ?_
    gi_wp2
    have hK3 : W3.heap[D]? = some (.deferred (some [])) := kx3.others D _ (by omega) hK rfl
    refine ⟨by simp, .inl ⟨_, _, rfl, run_takeDeferred hK3, ?_⟩⟩
    refine ⟨_, results_none rfl _ _ _, ⟨_, rfl⟩, _, rfl, ?_⟩
    rw [HW.out]
    refine hJ.less _ _ _ _ (hJ.step _ _ W3 _ (some D) hJ3 (grownBy_putObj' W3 D _) (fun r e => by cases e; exact .inr ⟨by omega, _, hK3, rfl⟩)) (fun b hb => .inl (.inl (.inl hb)))
  case stop =>
    rintro D c pre W1 _ _ h _
    exact h.elim
end Go.Proofs.Ytgmcomfeggidnaa
