/- slices.Repeat of one blank, as often as is asked. -/
import Derived.Test.YtgmcomfeggidnaaByt
import Derived.Test.YtgmcomfeggidnaaRefA
import Derived.Deep.RegionLaw
import Derived.Laws.CopyOwn
import Derived.Laws.OwnMore
set_option linter.unusedVariables false
set_option linter.unusedSimpArgs false
namespace Go.Proofs.Ytgmcomfeggidnaa
open Go.RowKit

theorem u64_and_nat (a b : Nat) (ha : a < 4294967296) (hb : b < 4294967296) : bits .and .u64 (a : Int) (b : Int) = ((a &&& b : Nat) : Int) := by
  have hx : a &&& b < 2 ^ 32 := Nat.and_lt_two_pow a (by omega)
  show IntKind.u64.wrap ((BitVec.ofInt 64 (a : Int) &&& BitVec.ofInt 64 (b : Int)).toNat : Int) = _
  rw [BitVec.toNat_and, ofInt_i64 a ha, ofInt_i64 b hb]
  simp [IntKind.wrap, IntKind.bits, IntKind.signed]
  try omega
theorem and_mask (n : Int) (h0 : 0 ≤ n) (h1 : n ≤ 100000) : bits .and .u64 n 4294967295 = n := by
  obtain ⟨m, rfl⟩ := Int.eq_ofNat_of_zero_le h0
  have := u64_and_nat m 4294967295 (by omega) (by omega)
  rw [show m &&& 4294967295 = m % 4294967296 from Nat.and_two_pow_sub_one_eq_mod m 32] at this
  rw [show ((4294967295 : Nat) : Int) = 4294967295 from rfl] at this
  rw [this]
  omega

set_option maxRecDepth 100000 in
set_option maxHeartbeats 1000000 in
theorem mul64_any (n : Int) (w : World) (h0 : 0 ≤ n) (h1 : n ≤ 100000) :
    Calls Try.prog 65 #[.int .u64 1, .int .u64 n] w fun e w' => e = .returned (.tuple #[.int .u64 0, .int .u64 n]) ∧ w' = w := by
  have a1 := and_mask n h0 h1
  have a2 := and_mask 1 (by omega) (by omega)
  have a3 := and_mask 0 (by omega) (by omega)
  have d1 : n / 4294967296 = 0 := by omega
  go_enter Try.func65, Try.ntmps65
  go_wp2
  go_ret2
  exact ⟨rfl, rfl⟩

set_option maxRecDepth 100000 in
set_option maxHeartbeats 1000000 in
theorem mul_any (n : Int) (w : World) (h0 : 0 ≤ n) (h1 : n ≤ 100000) :
    Calls Try.prog 56 #[.int .u64 1, .int .u64 n] w fun e w' => e = .returned (.tuple #[.int .u64 0, .int .u64 n]) ∧ w' = w := by
  have M := mul64_any n w h0 h1
  go_enter Try.func56, Try.ntmps56
  go_wp2_with (first | (go_at_call 65; refine M.mono ?_; rintro e w' ⟨rfl, rfl⟩))
  go_ret2
  exact ⟨rfl, rfl⟩

/-- The row that is filled: m of n. -/
def rwR (n m : Nat) : List Value := List.replicate m (.int .i64 32) ++ List.replicate (n - m) (.int .i64 0)
theorem rwR_splice (n m k : Nat) (h : m + k ≤ n) : splice (rwR n m) m (List.replicate k (.int .i64 32)) = rwR n (m + k) := by
  unfold splice rwR
  rw [List.take_left' (by simp), List.length_replicate, List.drop_append, List.drop_eq_nil_of_le (by simp), List.nil_append, List.length_replicate, List.drop_replicate, ← List.append_assoc, List.replicate_append_replicate]
  congr 2
  omega
theorem rwR_len (n m : Nat) (h : m ≤ n) : (rwR n m).length = n := by unfold rwR; simp; omega
theorem rwR_cell {w : World} {g n m : Nat} (h : w.heap[g]? = some (.cells (rwR n m).toArray 3 (0, 0))) (k : Nat) (hk : k ≤ m) (j : Nat) (v : Value) (hv : (List.replicate k (Value.int .i64 32))[j]? = some v) : w.cell? ((⟨g, 0, none⟩ : Addr).add j) = some v := by
  rw [add_plain, Nat.zero_add]
  have hj : j < k := by
    have := (List.getElem?_eq_some_iff.1 hv).1
    simpa using this
  simp [World.cell?, h, rwR, List.getElem?_append, List.getElem?_replicate, hj, (by omega : j < m)] at hv ⊢
  exact hv

theorem made_new (w : World) (n : Nat) (h : n ≤ 2000) :
    ∃ w', (Instr.makeSlice 22 (.int .i64 (n : Int)) (.int .i64 (n : Int))).run Try.prog w = .ok (.slice (some ⟨w.heap.size, 0, none⟩) n n) w' ∧ w'.heap[w.heap.size]? = some (.cells (rwR n 0).toArray 3 (0, 0)) ∧ Below w.heap.size w w' := by
  obtain ⟨i0, hi, hz0, hz1, hz2⟩ := info_parts Try.info3
  obtain ⟨w', h1, h2, h3⟩ := run_make_full (P := Try.prog) w w.heap.size 22 3 i0 (.int .i64 0) 1 Try.underlying22 hi hz0 hz1 .i64 .i64 n (by rw [hz2]; omega) (by unfold maxLen; omega) (Nat.le_refl _)
  refine ⟨w', h1, ?_, (Below.refl _ w).grown h3 (Nat.le_refl _) (fun k e => by cases e)⟩
  obtain ⟨-, ⟨e, -⟩ | ⟨g, cap, cur, e, -, hg, hnc, hcm, hcs, htk⟩⟩ := h2
  · cases e
  · cases e
    rw [hg]
    congr 2
    apply Array.toList_inj.1
    rw [List.take_of_length_le (by simp; omega)] at htk
    rw [htk, Nat.mul_one]
    show (madeCells #[Value.int .i64 0] n).toList = _
    rw [toList_madeCells_one]
    simp [rwR]

/-- In a region that draws: a copy whose run is known. -/
theorem step_copy_run {P : Program} {ops : Array Oper} {o : Oper} {a : Act} {w w' : World} {K : Act → World → Prop} {Q : Exit → Act → World → Prop} {E : Prop} (hgd : o.guard = none) (d s : Operand) (t : TypeId)
    (ho : o.op = .call { callee := .builtin .copy, args := #[d, s], argTypes := #[t, t] }) {u y v : Value} (hd : a.eval d = u) (hs : a.eval s = y) (hrun : (Builtin.copy_ #[t, t] o.type #[u, y]).run P w = .ok v w')
    (h : K (a.put o.dst v) w') : if Region.wanted o (yielded ops a.tmps) = true then Oper.wp P o a w K Q else E := by
  have hw : Region.wanted o (yielded ops a.tmps) = true := by simp [Region.wanted, hgd]
  rw [if_pos hw]
  unfold Oper.wp
  simp [execOp, ho, resolve, invoke, builtin, hd, hs, hrun, Result.andThen]
  exact h

theorem copy_new {w : World} {n m k : Nat} {g : Nat} {ad : Addr} {dLen dCap sLen sCap : Nat} (hg : w.heap[g]? = some (.cells (rwR n m).toArray 3 (0, 0))) (hk : k = Nat.min sLen dLen) (hfit : m + k ≤ n)
    (hsrc : ∀ j v, (List.replicate k (Value.int .i64 32))[j]? = some v → w.cell? (ad.add j) = some v) {B : Nat} {w0 : World} (hb : Below B w0 w) (hBg : B ≤ g) :
    ∃ w2, (Builtin.copy_ #[22, 22] 3 #[.slice (some ⟨g, m, none⟩) dLen dCap, .slice (some ad) sLen sCap]).run Try.prog w = .ok (.int .i64 k) w2 ∧ w2.heap[g]? = some (.cells (rwR n (m + k)).toArray 3 (0, 0)) ∧ Below B w0 w2 := by
  obtain ⟨i0, hi, hz0, hz1, hz2⟩ := info_parts Try.info3
  have hsz : (Try.prog.info? 3).map (·.size) = some 1 := by rw [hi]; simp [hz1]
  have R := run_copy_row (P := Try.prog) w 22 22 3 3 g m dLen dCap ad sLen sCap (rwR n m).toArray 3 (List.replicate k (.int .i64 32)) Try.underlying22 hsz hg (by rw [List.length_replicate]; exact hk) hsrc (by have := rwR_len n m (by omega); simp [this]; omega) (by
    intro v hv
    rw [List.eq_of_mem_replicate hv]
    rfl)
  rw [List.length_replicate] at R
  refine ⟨_, R, ?_, below_setRow hb hBg _⟩
  rw [setRow_heap w g _ _ 3 _ hg]
  have e := rwR_splice n m k hfit
  unfold splice at e
  rw [List.length_replicate] at e
  rw [← e]
  simp

set_option maxRecDepth 100000 in
set_option maxHeartbeats 2000000 in
theorem Repeat_any (n : Nat) (a : Addr) (w : World) (h1 : 1 ≤ n) (h2 : n ≤ 2000) (hc : w.cell? a = some (.int .i64 32)) :
    Calls Try.prog 48 #[.slice (some a) 1 1, .int .i64 n] w fun e w' => e = .returned (.slice (some ⟨w.heap.size, 0, none⟩) n n) ∧ w'.heap[w.heap.size]? = some (.cells (rwR n n).toArray 3 (0, 0)) ∧ Below w.heap.size w w' := by
  have h1' : (1 : Int) ≤ n := by omega
  have h2' : (n : Int) ≤ 2000 := by omega
  have MU := mul_any n w (by omega) (by omega)
  obtain ⟨w1, MK, hg1, hb1⟩ := made_new w n h2
  have hal := World.block_lt_of_cell? w a hc
  have hc1 : w1.cell? a = some (.int .i64 32) := (hb1.cell (p := a) hal).trans hc
  obtain ⟨w2, CP, hg2, hb2⟩ := copy_new (w := w1) (n := n) (m := 0) (k := 1) (g := w.heap.size) (ad := a) (dLen := n) (dCap := n) (sLen := 1) (sCap := 1) hg1 (by simp [Nat.min_def]; omega) (by omega) (fun j v hv => by
    obtain rfl : j = 0 := by
      have := (List.getElem?_eq_some_iff.1 hv).1
      simpa using this
    simp at hv
    subst hv
    have e0 : a.add 0 = a := by unfold Addr.add; cases a; rename_i b o sp; cases sp <;> simp
    rw [e0]
    exact hc1) hb1 (Nat.le_refl _)
  have HG : Hid (w2.heap[w.heap.size]? = some (.cells (rwR n 1).toArray 3 (0, 0))) := hg2
  clear hg1 hg2 hc1
  go_enter Try.func48, Try.ntmps48
  go_wp2_with (first | (go_at_call 56; refine MU.mono ?_; rintro e w ⟨rfl, rfl⟩))
  go_loopw [8] (fun mv wr => ∃ m : Nat, 1 ≤ m ∧ m ≤ n ∧ mv = .int .i64 m ∧ Hid (wr.heap[w.heap.size]? = some (.cells (rwR n m).toArray 3 (0, 0))) ∧ Below w.heap.size w wr) (fun mv _ => n - (intOf mv).toNat)
  case atStart => exact ⟨1, by omega, h1, rfl, HG, hb2⟩
  case round =>
    obtain ⟨m, hm1, hmn, rfl, HG2, hb⟩ := hrel
    by_cases hlt : m < n
    · have hli : (m : Int) < n := by omega
      have hne : ¬ n = m := by omega
      have hwr : IntKind.i64.wrap ((m : Int) + ((min m (n - m) : Nat) : Int)) = ((m + min m (n - m) : Nat) : Int) := by rw [IntKind.wrap_i64]; omega
      obtain ⟨w4, CP2, hg4, hb4⟩ := copy_new (w := wr.drew) (n := n) (m := m) (k := min m (n - m)) (g := w.heap.size) (ad := ⟨w.heap.size, 0, none⟩) (dLen := n - m) (dCap := n - m) (sLen := m) (sCap := n) HG2.out rfl (by omega)
        (fun j v hv => rwR_cell (w := wr.drew) HG2.out _ (by omega) j v hv) (hb.drew) (Nat.le_refl _)
      have HG4 : Hid (w4.heap[w.heap.size]? = some (.cells (rwR n (m + min m (n - m))).toArray 3 (0, 0))) := hg4
      clear hg4
      go_wp2
      go_region_law (refine step_copy_run (u := .slice (some ⟨w.heap.size, m, none⟩) (n - m) (n - m)) (y := .slice (some ⟨w.heap.size, 0, none⟩) m n) rfl (.tmp 41) (.tmp 44) 22 rfl (by go_simp) (by go_simp) CP2 ?_)
      all_goals
        simp only [List.getElem_toArray, List.getElem_cons_succ, List.getElem_cons_zero, Act.put, List.setIfInBounds_toArray, List.set_cons_succ, List.set_cons_zero]
        go_wp2
        go_roundw
        case rel => exact ⟨m + min m (n - m), by omega, by omega, by go_num, HG4, hb4⟩
        case measure => simp [intOf, hwr]; omega
    · obtain rfl : m = n := by omega
      go_wp2
      go_ret
      exact ⟨rfl, HG2.out, hb⟩
end Go.Proofs.Ytgmcomfeggidnaa
