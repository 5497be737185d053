/- The document's own whole, chomped and Literal: the same text. -/
import Derived.Test.YtgmcomfeggidnaaRefB
set_option linter.unusedVariables false
set_option linter.unusedSimpArgs false
namespace Go.Proofs.Ytgmcomfeggidnaa
open Go.RowKit Go.Shelf

/-- How many of the first k lines there are, up to the last one that is not empty. -/
def wN (R : List Row) : Nat → Nat
  | 0 => 0
  | k + 1 => if (tAt R k).length = 0 then wN R k else k + 1
theorem wN_le (R : List Row) : ∀ k, wN R k ≤ k
  | 0 => Nat.le_refl _
  | k + 1 => by
    unfold wN
    split
    · have := wN_le R k; omega
    · omega
theorem wN_told (R : List Row) : ∀ k, told (tellW R) k = told (tellW R) (wN R k)
  | 0 => rfl
  | k + 1 => by
    unfold wN
    split
    · rename_i h
      rw [told_no (by unfold tellW; simp [h])]
      exact wN_told R k
    · rfl
theorem wN_last (R : List Row) : ∀ k, 0 < wN R k → 0 < (tAt R (wN R k - 1)).length
  | 0 => fun h => by simp [wN] at h
  | k + 1 => by
    unfold wN
    split
    · exact wN_last R k
    · intro _
      rw [show k + 1 - 1 = k by omega]
      omega

set_option maxRecDepth 100000 in
set_option maxHeartbeats 1000000 in
theorem whole_any (p : Option Addr) (R : List Row) (cap : Nat) (w : World) (hR : R.length ≤ 1048576) (hM : Mt w p R) :
    Calls Try.prog 42 #[.slice p R.length cap] w fun e w' => e = .returned (.int .i64 (wN R R.length : Nat)) ∧ w' = w := by
  obtain ⟨z, hz⟩ : ∃ z, wN R R.length = z := ⟨_, rfl⟩
  rw [hz]
  have HZ : Hid (wN R R.length = z) := hz
  clear hz
  go_enter Try.func42, Try.ntmps42
  go_wp2
  go_loop [3] (fun i => ∃ (k : Nat), k ≤ R.length ∧ i = .int .i64 k ∧ Hid (wN R k = z)) (fun i => (intOf i).toNat)
  case atStart => exact ⟨R.length, Nat.le_refl _, rfl, HZ⟩
  case round =>
    obtain ⟨k, hk, rfl, HE⟩ := hrel
    cases k with
    | zero =>
      obtain rfl : z = 0 := HE.out.symm
      go_wp2
      go_ret
      exact ⟨rfl, rfl⟩
    | succ k =>
      have hki : ((k + 1 : Nat) : Int) - 1 = (k : Int) := by omega
      have hk0 : (0 : Int) < ((k + 1 : Nat) : Int) := by omega
      have hlk : (k : Int) < R.length := by omega
      obtain ⟨b, o, rfl, hb⟩ := hM.at (by omega)
      obtain ⟨r, hr⟩ := row_at (R := R) (i := k) (by omega)
      have c0 := hb k r hr
      have HT : Hid (tAt R k = r.t) := tAt_at hr
      obtain ⟨rq, rt, rc⟩ := r
      dsimp only at c0 HT
      have hkk : ((k + 1 : Nat) : Int) = (k : Int) + 1 := by omega
      rw [hkk] at *
      by_cases h0 : rt.length = 0
      · obtain rfl : rt = [] := List.eq_nil_of_length_eq_zero h0
        have HE' : Hid (wN R k = z) := by
          have := HE.out
          rw [wN, HT.out] at this
          exact this
        clear hb hM
        go_wp2
        go_round
        case rel => exact ⟨k, by omega, by go_num, HE'⟩
        case measure => simp [intOf] <;> omega
      · have h0' : ¬ (rt.length : Int) = 0 := by omega
        have hz2 : z = k + 1 := by
          have := HE.out
          rw [wN, HT.out, if_neg h0] at this
          exact this.symm
        subst hz2
        clear hb hM
        go_wp2
        go_ret
        exact ⟨rfl, rfl⟩

/-- How many ends stay, as the document's own chomped has it. -/
def chN (n all : Nat) (c : Int) : Nat := if c = 2 then all - n + (if 0 < n then 1 else 0) else if 0 < n ∧ c ≠ 1 then 1 else 0

set_option maxRecDepth 100000 in
set_option maxHeartbeats 2000000 in
theorem chomped_any (base : Nat) (v : Value) (T : List Int) (n all : Nat) (c : Int) (w : World) (hn : n ≤ all) (ha : all ≤ 1048576) (hT : T.length ≤ 4398046511104) (hb : base ≤ w.heap.size) (ho : Owns w base v T) :
    Calls Try.prog 43 #[v, .int .i64 n, .int .i64 all, .int .i64 c] w fun e w' => ∃ v', e = .returned v' ∧ Owns w' base v' (T ++ List.replicate (chN n all c) 10) ∧ Below base w w' := by
  obtain ⟨va, vk, vc, rfl⟩ := ownsRow_form ho
  by_cases h2 : c = 2
  · subst h2
    obtain ⟨m, hm⟩ : ∃ m, chN n all 2 = m := ⟨_, rfl⟩
    rw [hm]
    have hmv : m = all - n + (if 0 < n then 1 else 0) := by rw [← hm]; rfl
    clear hm
    by_cases hn0 : 0 < n
    · have hn0' : (0 : Int) < n := by omega
      rw [if_pos hn0] at hmv
      have HmI : Hid ((all : Int) - (n : Int) + 1 = (m : Int)) := by show _ = _; omega
      clear hmv
      go_enter Try.func43, Try.ntmps43
      go_wp2
      go_loopw [0, 10] (fun v j wr => ∃ (i : Nat), i ≤ m ∧ j = .int .i64 i ∧ Owns wr base v (T ++ List.replicate i 10) ∧ Below base w wr) (fun _ j _ => m - (intOf j).toNat)
      case atStart => exact ⟨0, Nat.zero_le _, rfl, (by simpa using ho), Below.refl _ _⟩
      case round =>
        obtain ⟨i, hi, rfl, ho2, hB2⟩ := hrel
        obtain ⟨va2, vk2, vc2, rfl⟩ := ownsRow_form ho2
        by_cases hil : i < m
        · have hil' : (i : Int) < (all : Int) - (n : Int) + 1 := by have := HmI.out; omega
          obtain ⟨v3, w3, hrun3, ho3, hb3⟩ := push1w ho2 (Nat.le_trans hb hB2.size) (by simp; omega) 10
          obtain ⟨va3, vk3, vc3, rfl⟩ := ownsRow_form ho3
          rw [List.append_assoc, ← List.replicate_succ'] at ho3
          go_wp2_with (first | (at_builtin; refine wpList_append_run (u := .slice va2 vk2 vc2) (y := .slice (some ⟨wr.heap.size, 0, none⟩) 1 1) rfl _ _ 22 rfl rfl rfl hrun3 ?_; clear hrun3))
          go_roundw
          case rel => exact ⟨i + 1, by omega, by go_num, ho3, hB2.trans hb3⟩
          case measure => simp [intOf]; omega
        · obtain rfl : i = m := by omega
          have hil' : ¬ (i : Int) < (all : Int) - (n : Int) + 1 := by have := HmI.out; omega
          go_wp2
          go_ret
          exact ⟨_, rfl, ho2, hB2⟩
    · obtain rfl : n = 0 := by omega
      rw [if_neg hn0] at hmv
      have HmI : Hid ((all : Int) = (m : Int)) := by show _ = _; omega
      clear hmv
      rw [show ((0 : Nat) : Int) = 0 from rfl]
      go_enter Try.func43, Try.ntmps43
      go_wp2
      go_loopw [0, 10] (fun v j wr => ∃ (i : Nat), i ≤ m ∧ j = .int .i64 i ∧ Owns wr base v (T ++ List.replicate i 10) ∧ Below base w wr) (fun _ j _ => m - (intOf j).toNat)
      case atStart => exact ⟨0, Nat.zero_le _, rfl, (by simpa using ho), Below.refl _ _⟩
      case round =>
        obtain ⟨i, hi, rfl, ho2, hB2⟩ := hrel
        obtain ⟨va2, vk2, vc2, rfl⟩ := ownsRow_form ho2
        by_cases hil : i < m
        · have hil' : (i : Int) < (all : Int) := by have := HmI.out; omega
          obtain ⟨v3, w3, hrun3, ho3, hb3⟩ := push1w ho2 (Nat.le_trans hb hB2.size) (by simp; omega) 10
          obtain ⟨va3, vk3, vc3, rfl⟩ := ownsRow_form ho3
          rw [List.append_assoc, ← List.replicate_succ'] at ho3
          go_wp2_with (first | (at_builtin; refine wpList_append_run (u := .slice va2 vk2 vc2) (y := .slice (some ⟨wr.heap.size, 0, none⟩) 1 1) rfl _ _ 22 rfl rfl rfl hrun3 ?_; clear hrun3))
          go_roundw
          case rel => exact ⟨i + 1, by omega, by go_num, ho3, hB2.trans hb3⟩
          case measure => simp [intOf]; omega
        · obtain rfl : i = m := by omega
          have hil' : ¬ (i : Int) < (all : Int) := by have := HmI.out; omega
          go_wp2
          go_ret
          exact ⟨_, rfl, ho2, hB2⟩
  · have h2b : (c == 2) = false := by simpa using h2
    by_cases hn0 : 0 < n
    · have hn0' : (0 : Int) < n := by omega
      by_cases h1 : c = 1
      · subst h1
        have hch : chN n all 1 = 0 := by unfold chN; rw [if_neg h2, if_neg (by simp)]
        rw [hch, List.replicate_zero, List.append_nil]
        go_enter Try.func43, Try.ntmps43
        go_wp2
        go_ret
        exact ⟨_, rfl, ho, Below.refl _ _⟩
      · have h1b : (c != 1) = true := by simpa using h1
        have h1c : (c == 1) = false := by simpa using h1
        have hch : chN n all c = 1 := by unfold chN; rw [if_neg h2, if_pos ⟨hn0, h1⟩]
        rw [hch]
        obtain ⟨v1, w1, hrun1, ho1, hb1⟩ := push1w ho hb (by omega) 10
        obtain ⟨va1, vk1, vc1, rfl⟩ := ownsRow_form ho1
        go_enter Try.func43, Try.ntmps43
        go_wp2_with (first | (at_builtin; refine wpList_append_run (u := .slice va vk vc) (y := .slice (some ⟨w.heap.size, 0, none⟩) 1 1) rfl _ _ 22 rfl rfl rfl hrun1 ?_; clear hrun1))
        go_ret
        exact ⟨_, rfl, ho1, hb1⟩
    · obtain rfl : n = 0 := by omega
      have hch : chN 0 all c = 0 := by unfold chN; rw [if_neg h2, if_neg (by simp)]
      rw [hch, List.replicate_zero, List.append_nil]
      go_enter Try.func43, Try.ntmps43
      go_wp2
      go_ret
      exact ⟨_, rfl, ho, Below.refl _ _⟩

/-- The lines so far, with an end between each two. -/
def litS (R : List Row) : Nat → List Int
  | 0 => []
  | k + 1 => litS R k ++ (if 0 < k then [10] else []) ++ tAt R k

theorem reps_nat (c : Int) (k : Nat) : reps c (k : Int) = List.replicate k c := by unfold reps; rw [Int.toNat_natCast]
theorem reps_neg (c k : Int) (h : k ≤ 0) : reps c k = [] := by unfold reps; rw [show k.toNat = 0 by omega]; rfl
theorem reps_snoc (c k : Int) (h : 0 ≤ k) : reps c k ++ [c] = reps c (k + 1) := by
  unfold reps
  rw [show (k + 1).toNat = k.toNat + 1 by omega, List.replicate_succ']

/-- What the walk of whole lines has told of the first k. -/
abbrev wJ (P : List Int → Bool) (R : List Row) (k : Nat) : List Int × Int := joinT (sepW P (tAt R)) (tAt R) (told (tellW R) k)
theorem wJ_yes {P : List Int → Bool} {R : List Row} {k : Nat} (h : 0 < (tAt R k).length) : wJ P R (k + 1) = ((wJ P R k).1 ++ sepW P (tAt R) (wJ P R k).2 k ++ tAt R k, (k : Int)) := by
  unfold wJ
  rw [told_yes (by unfold tellW; simpa using h), joinT_snoc]
theorem wJ_no {P : List Int → Bool} {R : List Row} {k : Nat} (h : (tAt R k).length = 0) : wJ P R (k + 1) = wJ P R k := by
  unfold wJ
  rw [told_no (by unfold tellW; simp [h])]
theorem wJ_lt (P : List Int → Bool) (R : List Row) : ∀ k : Nat, -1 ≤ (wJ P R k).2 ∧ (wJ P R k).2 < k
  | 0 => ⟨by show (-1 : Int) ≤ -1; omega, by show (-1 : Int) < ((0 : Nat) : Int); omega⟩
  | k + 1 => by
    have := wJ_lt P R k
    by_cases h : 0 < (tAt R k).length
    · rw [wJ_yes h]; dsimp only; omega
    · rw [wJ_no (by omega)]; omega

theorem litS_wJ (R : List Row) : ∀ k, litS R k = (wJ alwaysP R k).1 ++ reps 10 (if (wJ alwaysP R k).2 < 0 then (k : Int) - 1 else (k : Int) - 1 - (wJ alwaysP R k).2)
  | 0 => by rfl
  | k + 1 => by
    have ih := litS_wJ R k
    have hlt := wJ_lt alwaysP R k
    unfold litS
    rw [ih]
    by_cases h : 0 < (tAt R k).length
    · rw [wJ_yes h]
      dsimp only
      rw [if_neg (show ¬ (k : Int) < 0 by omega), reps_neg 10 _ (show ((k + 1 : Nat) : Int) - 1 - k ≤ 0 by omega), List.append_nil]
      congr 1
      rw [List.append_assoc]
      congr 1
      generalize (wJ alwaysP R k).2 = b at hlt
      unfold sepW
      by_cases hb : b < 0
      · obtain rfl : b = -1 := by omega
        rw [if_pos hb, if_pos hb]
        by_cases hk : 0 < k
        · rw [if_pos hk, reps_snoc _ _ (by omega)]
          congr 1
          omega
        · obtain rfl : k = 0 := by omega
          rfl
      · rw [if_neg hb, if_neg hb, if_pos (show 0 < k by omega), if_pos (show (alwaysP (tAt R b.toNat) || alwaysP (tAt R k)) = true from rfl), reps_snoc _ _ (by omega)]
        congr 1
        omega
    · have h0 : (tAt R k).length = 0 := by omega
      rw [wJ_no h0, List.eq_nil_of_length_eq_zero h0, List.append_nil, List.append_assoc]
      congr 1
      generalize (wJ alwaysP R k).2 = b at hlt
      by_cases hb : b < 0
      · rw [if_pos hb, if_pos hb]
        by_cases hk : 0 < k
        · rw [if_pos hk, reps_snoc _ _ (by omega)]
          congr 1
          omega
        · obtain rfl : k = 0 := by omega
          rfl
      · rw [if_neg hb, if_neg hb, if_pos (show 0 < k by omega), reps_snoc _ _ (by omega)]
        congr 1
        omega

/-- The last line that is told. -/
theorem wJ_last (P : List Int → Bool) (R : List Row) : (wJ P R (wN R R.length)).2 = (wN R R.length : Int) - 1 := by
  by_cases h : 0 < wN R R.length
  · have h1 := wN_last R R.length h
    generalize wN R R.length = n at h h1
    obtain ⟨m, rfl⟩ : ∃ m, n = m + 1 := ⟨n - 1, by omega⟩
    rw [show m + 1 - 1 = m by omega] at h1
    rw [wJ_yes h1]
    dsimp only
    omega
  · have h0 : wN R R.length = 0 := by omega
    rw [h0]
    rfl
theorem whole_chomp (P : List Int → Bool) (R : List Row) (c : Int) : wholeT P R c = (wJ P R (wN R R.length)).1 ++ List.replicate (chN (wN R R.length) R.length c) 10 := by
  unfold wholeT
  have hl := wJ_last P R
  have ht := wN_told R R.length
  have hle := wN_le R R.length
  rw [ht]
  unfold wJ at hl ⊢
  rw [hl]
  generalize wN R R.length = n at hle
  congr 1
  unfold reps
  congr 1
  unfold endN chN
  by_cases h2 : c = 2
  · rw [if_pos h2, if_pos h2]
    by_cases hn : 0 < n
    · rw [if_pos (by simp; omega), if_pos hn]; omega
    · rw [if_neg (by simp; omega), if_neg hn]; omega
  · rw [if_neg h2, if_neg h2]
    by_cases hn : 0 < n ∧ c ≠ 1
    · rw [if_neg (by simp; omega), if_pos hn]; rfl
    · rw [if_pos (by simp; omega), if_neg hn]; rfl

theorem wJ_len (P : List Int → Bool) (R : List Row) (hS : Sized R) (k : Nat) (hk : k ≤ R.length) : (wJ P R k).1.length ≤ 2199025352704 := by
  have h1 := joinT_len (sepW P (tAt R)) (tAt R) 1048576 R.length hS.2 (fun b i hb hi => sepW_len P _ _ b i hb hi) (told (tellW R) k) (fun i hi => by
    unfold told at hi
    have := List.mem_range.1 (List.mem_filter.1 hi).1
    omega)
  have h2 := told_len (tellW R) k
  have h3 := hS.1
  have : (told (tellW R) k).length * (1048576 + R.length + 1) ≤ 1048576 * 2097153 := Nat.mul_le_mul (by omega) (by omega)
  unfold wJ
  omega
theorem litS_len (R : List Row) (hS : Sized R) (k : Nat) (hk : k ≤ R.length) : (litS R k).length ≤ 2199027449856 := by
  rw [litS_wJ]
  have h1 := wJ_len alwaysP R hS k hk
  have h2 := wJ_lt alwaysP R k
  have h3 := hS.1
  unfold reps
  rw [List.length_append, List.length_replicate]
  split <;> omega

set_option maxRecDepth 100000 in
set_option maxHeartbeats 2000000 in
theorem refLiteral_any (p : Option Addr) (R : List Row) (cap : Nat) (ch : Int) (w : World) (hS : Sized R) (hM : Mt w p R) :
    Calls Try.prog 27 #[.slice p R.length cap, .int .i64 ch] w fun e w' => ∃ v, e = .returned v ∧ Owns w' w.heap.size v (wholeT alwaysP R ch) ∧ Below w.heap.size w w' := by
  have hR := hS.1
  have WH := whole_any p R cap w hR hM
  have hnl := wN_le R R.length
  have HW : Hid (wholeT alwaysP R ch = litS R (wN R R.length) ++ List.replicate (chN (wN R R.length) R.length ch) 10) := by
    show _ = _
    rw [whole_chomp, litS_wJ, wJ_last]
    congr 1
    rw [reps_neg _ _ (by split <;> omega), List.append_nil]
  generalize wN R R.length = n at WH hnl HW
  go_enter Try.func27, Try.ntmps27
  go_wp2_with (first | (go_at_call 42; refine WH.mono ?_; rintro e w ⟨rfl, rfl⟩))
  clear WH
  go_loopw [6, 7] (fun v i wr => ∃ (k : Nat), k ≤ n ∧ i = .int .i64 k ∧ Owns wr w.heap.size v (litS R k) ∧ Below w.heap.size w wr) (fun _ i _ => n - (intOf i).toNat)
  case atStart => exact ⟨0, Nat.zero_le _, rfl, World.ownsRow_nil _ _ 3 1, Below.refl _ _⟩
  case round =>
    obtain ⟨k, hk, rfl, ho, hB⟩ := hrel
    have hbd := litS_len R hS k (by omega)
    by_cases hlt : k < n
    · have hli : (k : Int) < n := by omega
      have hlR : (k : Int) < R.length := by omega
      obtain ⟨b0, o0, rfl, hcell⟩ := hM.at (by omega)
      obtain ⟨r, hr⟩ := row_at (R := R) (i := k) (by omega)
      have c0 := (hB.cell (p := ⟨b0, o0 + k, none⟩) (World.block_lt_of_cell? w _ (hcell k r hr))).trans (hcell k r hr)
      have hI := (hM.1 k r hr).2.2
      have hrt := hS.2 k
      have HL : Hid (litS R (k + 1) = litS R k ++ (if 0 < k then [10] else []) ++ r.t) := by show _ = _; rw [litS, tAt_at hr]
      rw [tAt_at hr] at hrt
      generalize litS R k = T at ho HL hbd
      obtain ⟨rq, rt, rc⟩ := r
      dsimp only at c0 hI hrt HL
      have hqb := hI.lt
      have hlt0 := World.block_lt_of_cell? w _ (hcell k _ hr)
      clear hcell hM
      by_cases hk0 : 0 < k
      · have hk0' : (0 : Int) < k := by omega
        rw [if_pos hk0] at HL
        obtain ⟨v1, w1, hrun1, ho1, hb1⟩ := push1w ho hB.size (by omega) 10
        have hB1 := hB.trans hb1
        have c1 := (hb1.cell (p := ⟨b0, o0 + k, none⟩) hlt0).trans c0
        obtain ⟨v2, w2, hrun2, ho2, hg2⟩ := pushL rc ho1 hB1.size (by simp; omega) (hI.below hqb hB1)
        have hb2 := owns_below ho1 hg2 (Nat.le_refl _) hB1.size
        obtain ⟨va, vk, vc, rfl⟩ := ownsRow_form ho
        obtain ⟨va1, vk1, vc1, rfl⟩ := ownsRow_form ho1
        obtain ⟨va2, vk2, vc2, rfl⟩ := ownsRow_form ho2
        go_wp2_with (first | (at_builtin; refine wpList_append_run (u := .slice va vk vc) (y := .slice (some ⟨wr.heap.size, 0, none⟩) 1 1) rfl _ _ 22 rfl rfl rfl hrun1 ?_; clear hrun1) | (at_builtin; refine wpList_append_run (u := .slice va1 vk1 vc1) (y := .slice rq rt.length rc) rfl _ _ 22 rfl rfl rfl hrun2 ?_; clear hrun2))
        go_roundw
        case rel => exact ⟨k + 1, by omega, by go_num, (by rw [HL.out]; exact ho2), hB1.trans hb2⟩
        case measure => simp [intOf]; omega
      · obtain rfl : k = 0 := by omega
        rw [if_neg hk0, List.append_nil] at HL
        rw [Nat.add_zero] at c0
        obtain ⟨v2, w2, hrun2, ho2, hg2⟩ := pushL rc ho hB.size (by omega) (hI.below hqb hB)
        have hb2 := owns_below ho hg2 (Nat.le_refl _) hB.size
        obtain ⟨va, vk, vc, rfl⟩ := ownsRow_form ho
        obtain ⟨va2, vk2, vc2, rfl⟩ := ownsRow_form ho2
        go_wp2_with (first | (at_builtin; refine wpList_append_run (u := .slice va vk vc) (y := .slice rq rt.length rc) rfl _ _ 22 rfl rfl rfl hrun2 ?_; clear hrun2))
        go_roundw
        case rel => exact ⟨0 + 1, by omega, by go_num, (by rw [HL.out]; exact ho2), hB.trans hb2⟩
        case measure => simp [intOf]; omega
    · obtain rfl : k = n := by omega
      obtain ⟨va, vk, vc, rfl⟩ := ownsRow_form ho
      have CH := chomped_any w.heap.size _ (litS R k) k R.length ch wr hnl hR (by omega) hB.size ho
      rw [← HW.out] at CH
      clear hM
      go_wp2_with (first | (go_at_call 43; refine CH.mono ?_; rintro e w' ⟨v', rfl, ho', hb'⟩))
      go_ret
      exact ⟨_, rfl, ho', hB.trans hb'⟩
end Go.Proofs.Ytgmcomfeggidnaa
