/- FoldSpaced's walk. -/
import Derived.Test.YtjidbgdblgchlaaGrw
set_option linter.unusedVariables false
set_option linter.unusedSimpArgs false
namespace Go.Proofs.Ytjidbgdblgchlaa
open Go.RowKit Go.Shelf

theorem i64_and3 (n : Int) : bits .and .i64 n 3 = n % 4 := by
  have h3 : (BitVec.ofInt 64 3).toNat = 2 ^ 2 - 1 := by decide
  have key : (BitVec.ofInt 64 n &&& BitVec.ofInt 64 3).toNat = (n % ((2 ^ 64 : Nat) : Int)).toNat % 2 ^ 2 := by
    rw [BitVec.toNat_and, BitVec.toNat_ofInt, h3, Nat.and_two_pow_sub_one_eq_mod]
  show IntKind.i64.wrap ((BitVec.ofInt 64 n &&& BitVec.ofInt 64 3).toNat : Nat) = n % 4
  rw [key, IntKind.wrap_i64]
  omega

/-- A line that is about to be appended. -/
abbrev RR (W : World) (r : Row) (vl vb vw : Value) : Prop := Rok W r ∧ Off r vl ∧ Off r vb ∧ Off r vw

/-- One code point more of the text. -/
theorem Bld.push1 {w W : World} {vl vb vw : Value} {Rl Rb : List Row} {T : List Int} (h : Bld w W vl vb vw Rl Rb T) (hn : T.length + 1 ≤ 1073741824) (x : Int) :
    ∃ g n cap W1, (Builtin.append_ #[26, 26] 26 #[vw, .slice (some ⟨W.heap.size, 0, none⟩) 1 1]).run Try.prog (W.alloc (.cells #[.int .i64 x] 3)) = .ok (.slice (some ⟨g, 0, none⟩) n cap) W1 ∧ Bld w W1 vl vb (.slice (some ⟨g, 0, none⟩) n cap) Rl Rb (T ++ [x]) ∧
      (∀ r', Rok W r' → Off r' vw → Rok W1 r' ∧ Off r' (.slice (some ⟨g, 0, none⟩) n cap)) := by
  obtain ⟨g, n, cap, W1, h1, h2, h3, -⟩ := (h.alloc (.cells #[.int .i64 x] 3)).pushT (u := [x]) (q := some ⟨W.heap.size, 0, none⟩) 1 hn (by simp) (is_of_block (World.alloc_heap_new W _))
  exact ⟨g, n, cap, W1, h1, h2, fun r' a b => h3 r' ⟨a.1, a.2.1, a.2.2.alloc _⟩ b⟩

theorem rep_snoc {α : Type} (l : List α) (m : Nat) (x : α) : l ++ List.replicate (m + 1) x = (l ++ List.replicate m x) ++ [x] := by rw [List.replicate_succ', List.append_assoc]

/-- The words: a, and a blank and b. -/
def wd (i : Nat) : List Int := if i % 2 = 1 then [32, 98] else [97]
/-- Behind k words: the lines R, the text T. -/
def SpI (k : Nat) (R : List Row) (T : List Int) : Prop :=
  (allJ spacedP R).1 = T ∧ R.length ≤ 4 * k ∧ T.length ≤ 6 * k ∧ (k = 0 → R = []) ∧ (0 < k → 0 < R.length ∧ tAt R (R.length - 1) = wd (k - 1) ∧ (allJ spacedP R).2 = (R.length : Int) - 1) ∧ ∀ r, r ∈ R → r.t.length ≤ 2

theorem allJ_nils (P : List Int → Bool) (R : List Row) : ∀ m, allJ P (R ++ List.replicate m nilR) = allJ P R
  | 0 => by simp
  | m + 1 => by rw [rep_snoc, allJ_no rfl, allJ_nils P R m]

theorem wd_len (k : Nat) : 0 < (wd k).length ∧ (wd k).length ≤ 2 := by unfold wd; split <;> simp
theorem wd_sp (k : Nat) : (spacedP (wd k) || spacedP (wd (k + 1))) = true := by
  unfold wd
  by_cases h : k % 2 = 1
  · rw [if_pos h]; rfl
  · rw [if_neg h, if_pos (by omega)]; rfl

theorem SpI_zero {r : Row} (hr : r.t = wd 0) : SpI (0 + 1) ([] ++ [r]) ([] ++ r.t) := by
  rw [hr]
  have hl := wd_len 0
  refine ⟨?_, by simp, by simp; omega, (fun h => by omega), fun _ => ⟨by simp, by simp [tAt, hr], ?_⟩, fun r' hr' => by simp at hr'; rw [hr', hr]; omega⟩
  · rw [allJ_yes (by rw [hr]; exact hl.1), hr]
    rfl
  · rw [allJ_yes (by rw [hr]; exact hl.1)]
    simp
theorem SpI_step {k m : Nat} {R : List Row} {T : List Int} {r : Row} (h : SpI k R T) (hk : 0 < k) (hm : m ≤ 3) (hr : r.t = wd k) : SpI (k + 1) ((R ++ List.replicate m nilR) ++ [r]) ((T ++ [10] ++ List.replicate m 10) ++ r.t) := by
  rw [hr]
  obtain ⟨h1, h2, h3, -, h5, h6⟩ := h
  obtain ⟨g1, g2, g3⟩ := h5 hk
  have hl := wd_len k
  have hlen : (R ++ List.replicate m nilR).length = R.length + m := by simp
  refine ⟨?_, by simp; omega, by simp; omega, (fun h => by omega), fun _ => ⟨by simp; omega, ?_, ?_⟩, fun r' hr' => ?_⟩
  · rw [allJ_yes (by rw [hr]; exact hl.1), allJ_nils, h1, g3, hr, hlen]
    dsimp only
    suffices hs : sepW spacedP (tAt ((R ++ List.replicate m nilR) ++ [r])) ((R.length : Int) - 1) (R.length + m) = [10] ++ List.replicate m 10 by rw [hs, ← List.append_assoc]
    unfold sepW
    rw [if_neg (by omega)]
    have e1 : tAt ((R ++ List.replicate m nilR) ++ [r]) ((R.length : Int) - 1).toNat = wd (k - 1) := by
      rw [show ((R.length : Int) - 1).toNat = R.length - 1 by omega, tAt_app (by simp; omega), tAt_app (by omega), g2]
    have e2 : tAt ((R ++ List.replicate m nilR) ++ [r]) (R.length + m) = wd k := by
      have := tAt_new (R ++ List.replicate m nilR) r
      rw [hlen, hr] at this
      exact this
    have e3 := wd_sp (k - 1)
    rw [show k - 1 + 1 = k by omega] at e3
    rw [e1, e2, if_pos e3]
    unfold reps
    rw [show (((R.length + m : Nat) : Int) - ((R.length : Int) - 1) - 1 + 1).toNat = m + 1 by omega, List.replicate_succ]
    rfl
  · have := tAt_new (R ++ List.replicate m nilR) r
    rw [List.length_append, List.length_singleton, Nat.add_sub_cancel, this, hr]
    rfl
  · rw [allJ_yes (by rw [hr]; exact hl.1)]
    simp
    omega
  · rcases List.mem_append.1 hr' with hr' | hr'
    · rcases List.mem_append.1 hr' with hr' | hr'
      · exact h6 r' hr'
      · rw [(List.mem_replicate.1 hr').2]; simp [nilR]
    · simp at hr'; rw [hr', hr]; omega
theorem SpI_end {k : Nat} {R : List Row} {T : List Int} (h : SpI k R T) (hk : 0 < k) (hk2 : k ≤ 15) : wholeT spacedP R 1 = T ∧ Sized R := by
  obtain ⟨h1, h2, h3, -, h5, h6⟩ := h
  obtain ⟨g1, g2, g3⟩ := h5 hk
  have hl := wd_len (k - 1)
  refine ⟨by rw [(whole_last spacedP (by rw [g2]; exact hl.1)).1, h1], sized_small (by omega) (fun r hr => by have := h6 r hr; omega)⟩

set_option maxRecDepth 100000 in
set_option maxHeartbeats 4000000 in
theorem spaced_main (n : Nat) (q : Option Addr) (t : List Int) (cap : Nat) (w : World) (hn1 : 1 ≤ n) (hn2 : n ≤ 15) (hnt : n ≤ t.length) (hm : t.length ≤ maxLen) (hI : Is w q t) :
    Calls Try.prog 8 #[.int .i64 n, .slice q t.length cap] w fun e w' => e = .returned (.bool true) ∧ Below w.heap.size w w' := by
  have hm' : (t.length : Int) ≤ 9223372036854775807 := by unfold maxLen at hm; omega
  have e1 : ¬ (n : Int) < 1 := by omega
  have e2 : ¬ (15 : Int) < n := by omega
  have e3 : ¬ (t.length : Int) < n := by omega
  have f1 : decide ((n : Int) < 1) = false := decide_eq_false e1
  have f2 : decide ((15 : Int) < n) = false := decide_eq_false e2
  have f3 : decide (t.length < n) = false := decide_eq_false (by omega)
  go_enter Try.func8, Try.ntmps8
  go_wp2_with (first | (go_at_call 9; refine (alive_any _).mono ?_; rintro e W ⟨rfl, hB⟩))
  go_loopw [6, 7, 8] (fun vl vw i wr => ∃ (k : Nat) (R : List Row) (T : List Int), k ≤ n ∧ i = .int .i64 k ∧ Hid (SpI k R T) ∧ Bld w wr vl (.slice none 0 0) vw R [] T) (fun _ _ i _ => n - (intOf i).toNat)
  case atStart => exact ⟨0, [], [], Nat.zero_le _, rfl, ⟨rfl, by simp, by simp, (fun _ => rfl), (fun h => by omega), fun r hr => by cases hr⟩, ⟨World.ownsRow_nil _ _ 26 1, World.ownsRow_nil _ _ 26 1, World.ownsRow_nil _ _ 3 1, (fun g e => by cases e), (fun r hr => by rcases hr with hr | hr <;> cases hr), hB⟩⟩
  case round =>
    obtain ⟨k, R, T, hk, rfl, HS, B⟩ := hrel
    obtain ⟨wo, rfl⟩ : ∃ wo, wo = wr := ⟨_, rfl⟩
    have hRl : R.length ≤ 60 := by have := HS.out.2.1; omega
    have hTl : T.length ≤ 90 := by have := HS.out.2.2.1; omega
    obtain ⟨a1, a2, a3, hvl⟩ := ownsRow_form B.l
    obtain ⟨d1, d2, d3, hvw⟩ := ownsRow_form B.t
    subst hvl hvw
    by_cases hlt : k < n
    · have hli : (k : Int) < n := by omega
      have hkt : (k : Int) < t.length := by omega
      obtain ⟨bg, og, rfl, hgc⟩ := hI.at (by omega)
      have cg0 := hgc k (by omega)
      have cgA : ∀ o, (wo.alloc o).cell? ⟨bg, og + k, none⟩ = some (.int .i64 (iAt t k)) := fun o => ((B.alloc o).below.cell (p := ⟨bg, og + k, none⟩) (World.block_lt_of_cell? w _ cg0)).trans cg0
      have cgB : ∀ o o', ((wo.alloc o).alloc o').cell? ⟨bg, og + k, none⟩ = some (.int .i64 (iAt t k)) := fun o o' => (((B.alloc o).alloc o').below.cell (p := ⟨bg, og + k, none⟩) (World.block_lt_of_cell? w _ cg0)).trans cg0
      have hA : bits .and .i64 (iAt t k) 3 = (((iAt t k % 4).toNat : Nat) : Int) := by rw [i64_and3]; omega
      have hm3 : (iAt t k % 4).toNat ≤ 3 := by omega
      generalize (iAt t k % 4).toNat = m at hA hm3
      generalize iAt t k = x at cgA cgB hA
      clear hgc cg0
      by_cases hk0 : 0 < k
      · have hk0' : (0 : Int) < k := by omega
        by_cases hpar : k % 2 = 1
        · have ht1 : Int.tmod (k : Int) 2 = 1 := by rw [Int.tmod_eq_emod_of_nonneg (by omega)]; omega
          clear cgA
          have B0 := B.alloc (.cells #[.int .i64 97] 3)
          have hrr : RR ((wo.alloc (.cells #[.int .i64 97] 3)).alloc (.cells #[.int .i64 32, .int .i64 98] 3)) (newR (wo.alloc (.cells #[.int .i64 97] 3)) [32, 98]) (.slice a1 a2 a3) (.slice none 0 0) (.slice d1 d2 d3) := newR_ok B0 [32, 98] (by simp)
          have BA : Bld w ((wo.alloc (.cells #[.int .i64 97] 3)).alloc (.cells #[.int .i64 32, .int .i64 98] 3)) (.slice a1 a2 a3) (.slice none 0 0) (.slice d1 d2 d3) R [] T := B0.alloc _
          have HW : Hid ((newR (wo.alloc (.cells #[.int .i64 97] 3)) [32, 98]).t = wd k) := (by show [32, 98] = wd k; unfold wd; rw [if_pos hpar])
          have hrq : rowV (newR (wo.alloc (.cells #[.int .i64 97] 3)) [32, 98]) = .slice (some ⟨wo.heap.size + 1, 0, none⟩) 2 2 := (by simp [rowV, newR])
          have hrlen : (newR (wo.alloc (.cells #[.int .i64 97] 3)) [32, 98]).t.length = 2 := rfl
          generalize newR (wo.alloc (.cells #[.int .i64 97] 3)) [32, 98] = r at hrr HW hrq hrlen
          clear B0 B
          obtain ⟨g1, n1, c1, W1, hr1, B1, k1⟩ := BA.push1 (by omega) 10
          have k1 := k1 r hrr.1 hrr.2.2.2
          rw [show ((wo.alloc (.cells #[.int .i64 97] 3)).alloc (.cells #[.int .i64 32, .int .i64 98] 3)).heap.size = wo.heap.size + 1 + 1 from by simp] at hr1
          go_wp2_with (first | (at_builtin; refine wpList_append_run (u := .slice d1 d2 d3) (y := .slice (some ⟨wo.heap.size + 1 + 1, 0, none⟩) 1 1) rfl _ _ 26 rfl rfl rfl hr1 ?_; clear hr1))
          go_loopw [6, 7, 11] (fun vl vw j wx => ∃ (i : Nat), i ≤ m ∧ j = .int .i64 i ∧ Bld w wx vl (.slice none 0 0) vw (R ++ List.replicate i nilR) [] (T ++ [10] ++ List.replicate i 10) ∧ RR wx r vl (.slice none 0 0) vw) (fun _ _ j _ => m - (intOf j).toNat)
          case atStart => exact ⟨0, Nat.zero_le _, rfl, (by simpa using B1), k1.1, hrr.2.1, hrr.2.2.1, k1.2⟩
          case round =>
            clear B1 k1 hrr BA
            obtain ⟨i, him, rfl, BX, hrx⟩ := hrel
            obtain ⟨x1, x2, x3, hxl⟩ := ownsRow_form BX.l
            obtain ⟨y1, y2, y3, hyw⟩ := ownsRow_form BX.t
            subst hxl hyw
            by_cases hil : i < m
            · have hil' : (i : Int) < m := by omega
              obtain ⟨g2, n2, c2, W2, hr2, B2, k2, -⟩ := BX.pushL (by simp; omega) nilR (nilR_ok _ _ _ _)
              obtain ⟨g3, n3, c3, W3, hr3, B3, k3⟩ := B2.push1 (by simp; omega) 10
              have rok2 := k2 r hrx.1 hrx.2.1
              have rok3 := k3 r rok2.1 hrx.2.2.2
              rw [show rowV nilR = .slice none 0 0 from rfl] at hr2
              have B3' : Bld w W3 (.slice (some ⟨g2, 0, none⟩) n2 c2) (.slice none 0 0) (.slice (some ⟨g3, 0, none⟩) n3 c3) (R ++ List.replicate (i + 1) nilR) [] (T ++ [10] ++ List.replicate (i + 1) 10) := (by rw [rep_snoc, rep_snoc]; exact B3)
              clear B2 B3 k2 k3
              go_wp2_with (first | (at_builtin; refine wpList_append_run (u := .slice x1 x2 x3) (y := .slice (some ⟨wr.heap.size, 0, none⟩) 1 1) rfl _ _ 22 rfl rfl rfl hr2 ?_; clear hr2) | (at_builtin; refine wpList_append_run (u := .slice y1 y2 y3) (y := .slice (some ⟨W2.heap.size, 0, none⟩) 1 1) rfl _ _ 26 rfl rfl rfl hr3 ?_; clear hr3))
              go_roundw
              case rel => exact ⟨i + 1, by omega, by go_num, B3', rok3.1, rok2.2, hrx.2.2.1, rok3.2⟩
              case measure => simp [intOf]; omega
            · have hime : m = i := by omega
              subst hime
              obtain ⟨gl, nl, cl, Wl, hrl, Bl, kl, -⟩ := BX.pushL (by simp <;> omega) r hrx
              obtain ⟨rok1, off1⟩ := kl r hrx.1 hrx.2.1
              obtain ⟨gt, nt, ct, Wt, hrt, Bt, -, -⟩ := Bl.pushT (u := r.t) (q := r.q) r.c (by simp <;> omega) (by omega) rok1.2.2
              have HST : Hid (SpI (k + 1) ((R ++ List.replicate m nilR) ++ [r]) ((T ++ [10] ++ List.replicate m 10) ++ r.t)) := SpI_step HS.out hk0 hm3 HW.out
              rw [show (Value.slice r.q r.t.length r.c) = rowV r from rfl] at hrt
              rw [hrq] at hrl hrt
              go_wp2_with (first | (at_builtin; refine wpList_append_run (u := .slice x1 x2 x3) (y := .slice (some ⟨wr.heap.size, 0, none⟩) 1 1) rfl _ _ 22 rfl rfl rfl hrl ?_; clear hrl) | (at_builtin; refine wpList_append_run (u := .slice y1 y2 y3) (y := .slice (some ⟨wo.heap.size + 1, 0, none⟩) 2 2) rfl _ _ 26 rfl rfl rfl hrt ?_; clear hrt))
              go_roundw
              case rel => exact ⟨k + 1, _, _, by omega, by go_num, HST, Bt⟩
              case measure => simp [intOf]; omega
        · have ht1 : Int.tmod (k : Int) 2 = 0 := by rw [Int.tmod_eq_emod_of_nonneg (by omega)]; omega
          clear cgB
          have B0 := B
          have hrr : RR (wo.alloc (.cells #[.int .i64 97] 3)) (newR (wo) [97]) (.slice a1 a2 a3) (.slice none 0 0) (.slice d1 d2 d3) := newR_ok B0 [97] (by simp)
          have BA : Bld w (wo.alloc (.cells #[.int .i64 97] 3)) (.slice a1 a2 a3) (.slice none 0 0) (.slice d1 d2 d3) R [] T := B0.alloc _
          have HW : Hid ((newR (wo) [97]).t = wd k) := (by show [97] = wd k; unfold wd; rw [if_neg hpar])
          have hrq : rowV (newR (wo) [97]) = .slice (some ⟨wo.heap.size, 0, none⟩) 1 1 := (by rfl)
          have hrlen : (newR (wo) [97]).t.length = 1 := rfl
          generalize newR (wo) [97] = r at hrr HW hrq hrlen
          clear B0 B
          obtain ⟨g1, n1, c1, W1, hr1, B1, k1⟩ := BA.push1 (by omega) 10
          have k1 := k1 r hrr.1 hrr.2.2.2
          rw [show (wo.alloc (.cells #[.int .i64 97] 3)).heap.size = wo.heap.size + 1 from by simp] at hr1
          go_wp2_with (first | (at_builtin; refine wpList_append_run (u := .slice d1 d2 d3) (y := .slice (some ⟨wo.heap.size + 1, 0, none⟩) 1 1) rfl _ _ 26 rfl rfl rfl hr1 ?_; clear hr1))
          go_loopw [6, 7, 11] (fun vl vw j wx => ∃ (i : Nat), i ≤ m ∧ j = .int .i64 i ∧ Bld w wx vl (.slice none 0 0) vw (R ++ List.replicate i nilR) [] (T ++ [10] ++ List.replicate i 10) ∧ RR wx r vl (.slice none 0 0) vw) (fun _ _ j _ => m - (intOf j).toNat)
          case atStart => exact ⟨0, Nat.zero_le _, rfl, (by simpa using B1), k1.1, hrr.2.1, hrr.2.2.1, k1.2⟩
          case round =>
            clear B1 k1 hrr BA
            obtain ⟨i, him, rfl, BX, hrx⟩ := hrel
            obtain ⟨x1, x2, x3, hxl⟩ := ownsRow_form BX.l
            obtain ⟨y1, y2, y3, hyw⟩ := ownsRow_form BX.t
            subst hxl hyw
            by_cases hil : i < m
            · have hil' : (i : Int) < m := by omega
              obtain ⟨g2, n2, c2, W2, hr2, B2, k2, -⟩ := BX.pushL (by simp; omega) nilR (nilR_ok _ _ _ _)
              obtain ⟨g3, n3, c3, W3, hr3, B3, k3⟩ := B2.push1 (by simp; omega) 10
              have rok2 := k2 r hrx.1 hrx.2.1
              have rok3 := k3 r rok2.1 hrx.2.2.2
              rw [show rowV nilR = .slice none 0 0 from rfl] at hr2
              have B3' : Bld w W3 (.slice (some ⟨g2, 0, none⟩) n2 c2) (.slice none 0 0) (.slice (some ⟨g3, 0, none⟩) n3 c3) (R ++ List.replicate (i + 1) nilR) [] (T ++ [10] ++ List.replicate (i + 1) 10) := (by rw [rep_snoc, rep_snoc]; exact B3)
              clear B2 B3 k2 k3
              go_wp2_with (first | (at_builtin; refine wpList_append_run (u := .slice x1 x2 x3) (y := .slice (some ⟨wr.heap.size, 0, none⟩) 1 1) rfl _ _ 22 rfl rfl rfl hr2 ?_; clear hr2) | (at_builtin; refine wpList_append_run (u := .slice y1 y2 y3) (y := .slice (some ⟨W2.heap.size, 0, none⟩) 1 1) rfl _ _ 26 rfl rfl rfl hr3 ?_; clear hr3))
              go_roundw
              case rel => exact ⟨i + 1, by omega, by go_num, B3', rok3.1, rok2.2, hrx.2.2.1, rok3.2⟩
              case measure => simp [intOf]; omega
            · have hime : m = i := by omega
              subst hime
              obtain ⟨gl, nl, cl, Wl, hrl, Bl, kl, -⟩ := BX.pushL (by simp <;> omega) r hrx
              obtain ⟨rok1, off1⟩ := kl r hrx.1 hrx.2.1
              obtain ⟨gt, nt, ct, Wt, hrt, Bt, -, -⟩ := Bl.pushT (u := r.t) (q := r.q) r.c (by simp <;> omega) (by omega) rok1.2.2
              have HST : Hid (SpI (k + 1) ((R ++ List.replicate m nilR) ++ [r]) ((T ++ [10] ++ List.replicate m 10) ++ r.t)) := SpI_step HS.out hk0 hm3 HW.out
              rw [show (Value.slice r.q r.t.length r.c) = rowV r from rfl] at hrt
              rw [hrq] at hrl hrt
              go_wp2_with (first | (at_builtin; refine wpList_append_run (u := .slice x1 x2 x3) (y := .slice (some ⟨wr.heap.size, 0, none⟩) 1 1) rfl _ _ 22 rfl rfl rfl hrl ?_; clear hrl) | (at_builtin; refine wpList_append_run (u := .slice y1 y2 y3) (y := .slice (some ⟨wo.heap.size, 0, none⟩) 1 1) rfl _ _ 26 rfl rfl rfl hrt ?_; clear hrt))
              go_roundw
              case rel => exact ⟨k + 1, _, _, by omega, by go_num, HST, Bt⟩
              case measure => simp [intOf]; omega
      · obtain rfl : k = 0 := by omega
        obtain rfl : R = [] := HS.out.2.2.2.1 rfl
        obtain rfl : T = [] := List.eq_nil_of_length_eq_zero (by have := HS.out.2.2.1; omega)
        rw [Nat.add_zero] at cgA
        clear cgB
        have hrx : RR (wo.alloc (.cells #[.int .i64 97] 3)) (newR wo [97]) (.slice a1 a2 a3) (.slice none 0 0) (.slice d1 d2 d3) := newR_ok B [97] (by simp)
        have BX : Bld w (wo.alloc (.cells #[.int .i64 97] 3)) (.slice a1 a2 a3) (.slice none 0 0) (.slice d1 d2 d3) [] [] [] := B.alloc _
        have HW : Hid ((newR wo [97]).t = wd 0) := rfl
        have hrq : rowV (newR wo [97]) = .slice (some ⟨wo.heap.size, 0, none⟩) 1 1 := rfl
        have hrlen : (newR wo [97]).t.length = 1 := rfl
        generalize newR wo [97] = r at hrx HW hrq hrlen
        clear B
        obtain ⟨gl, nl, cl, Wl, hrl, Bl, kl, -⟩ := BX.pushL (by simp <;> omega) r hrx
        obtain ⟨rok1, off1⟩ := kl r hrx.1 hrx.2.1
        obtain ⟨gt, nt, ct, Wt, hrt, Bt, -, -⟩ := Bl.pushT (u := r.t) (q := r.q) r.c (by simp <;> omega) (by omega) rok1.2.2
        have HST : Hid (SpI (0 + 1) ([] ++ [r]) ([] ++ r.t)) := SpI_zero HW.out
        rw [show (Value.slice r.q r.t.length r.c) = rowV r from rfl] at hrt
        rw [hrq] at hrl hrt
        rw [show (wo.alloc (.cells #[.int .i64 97] 3)).heap.size = wo.heap.size + 1 from by simp] at hrl
        go_wp2_with (first | (at_builtin; refine wpList_append_run (u := .slice a1 a2 a3) (y := .slice (some ⟨wo.heap.size + 1, 0, none⟩) 1 1) rfl _ _ 22 rfl rfl rfl hrl ?_; clear hrl) | (at_builtin; refine wpList_append_run (u := .slice d1 d2 d3) (y := .slice (some ⟨wo.heap.size, 0, none⟩) 1 1) rfl _ _ 26 rfl rfl rfl hrt ?_; clear hrt))
        go_roundw
        case rel => exact ⟨0 + 1, _, _, by omega, by go_num, HST, Bt⟩
        case measure => simp [intOf]; omega
    · obtain rfl : k = n := by omega
      obtain ⟨hw, hSz⟩ := SpI_end HS.out (by omega) hn2
      obtain ⟨ql, cl, hql, hMl⟩ := B.l.read (fun r hr => (B.rows r (.inl hr)).1)
      obtain ⟨qw, cw, hqw, hIw⟩ := B.t.read
      rw [hql, hqw]
      have BK := Block_any ql R cl 1 wo hSz hMl
      rw [hw] at BK
      have SI := fun p q c d W => same_ints p q T c d W (by omega)
      have hBw := B.below
      clear hw hSz HS B hql hqw
      go_wp2_with (first | (go_at_call 16; refine BK.mono ?_; rintro e W2 ⟨v2, rfl, ho2, hb2⟩; obtain ⟨q2, c2, rfl, hI2⟩ := ho2.read; have hB2 := hBw.trans (hb2.mono hBw.size); clear ho2) | (go_at_call 11; refine (SI _ _ _ _ _ hI2 (hIw.on hb2)).mono ?_; rintro e W4 ⟨rfl, m, rfl⟩))
      go_ret
      exact ⟨rfl, belowN hB2 _⟩

set_option maxRecDepth 100000 in
set_option maxHeartbeats 2000000 in
theorem spaced_out (n : Int) (q : Option Addr) (t : List Int) (cap : Nat) (w : World) (hm : t.length ≤ maxLen) (h : n < 1 ∨ 15 < n ∨ (t.length : Int) < n) :
    Calls Try.prog 8 #[.int .i64 n, .slice q t.length cap] w fun e w' => e = .returned (.bool true) ∧ Below w.heap.size w w' := by
  by_cases h1 : n < 1
  · go_enter Try.func8, Try.ntmps8
    go_wp2_with (first | (go_at_call 9; refine (alive_any _).mono ?_; rintro e W ⟨rfl, hB⟩))
    go_ret
    exact ⟨rfl, hB⟩
  · by_cases h2 : 15 < n
    · go_enter Try.func8, Try.ntmps8
      go_wp2_with (first | (go_at_call 9; refine (alive_any _).mono ?_; rintro e W ⟨rfl, hB⟩))
      go_ret
      exact ⟨rfl, hB⟩
    · have h3 : (t.length : Int) < n := by omega
      go_enter Try.func8, Try.ntmps8
      go_wp2_with (first | (go_at_call 9; refine (alive_any _).mono ?_; rintro e W ⟨rfl, hB⟩))
      go_ret
      exact ⟨rfl, hB⟩

theorem spaced_law (n : Int) (q : Option Addr) (t : List Int) (cap : Nat) (w : World) (hc : t.length ≤ cap) (hm : cap ≤ maxLen) (hI : Is w q t) :
    Calls Try.prog 8 #[.int .i64 n, .slice q t.length cap] w fun e w' => e = .returned (.bool true) ∧ Below w.heap.size w w' := by
  by_cases h : n < 1 ∨ 15 < n ∨ (t.length : Int) < n
  · exact spaced_out n q t cap w (by omega) h
  · obtain ⟨k, rfl⟩ : ∃ k : Nat, n = k := ⟨n.toNat, by omega⟩
    exact spaced_main k q t cap w (by omega) (by omega) (by omega) (by omega) hI
end Go.Proofs.Ytjidbgdblgchlaa
