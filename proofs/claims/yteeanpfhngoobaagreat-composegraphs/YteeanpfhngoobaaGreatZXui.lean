/- SameInts, num, of what is the same. -/
import Derived.Test.YteeanpfhngoobaaGreatZXuh
set_option linter.all false
set_option maxRecDepth 100000
namespace Go.Proofs.YteeanpfhngoobaaGreat.Xk
open Go.RowKit

theorem ints_at {l : List Int} {i : Nat} {x : Int} (h : l[i]? = some x) : (ints l)[i]? = some (.int .i64 x) := by simp [ints, h]
theorem Lst.slot {h : HP} {v : Value} {l : List Int} {o : Option Nat} {i : Nat} {x : Int} (hl : Lst h 1 v (ints l) l.length o) (hx : l[i]? = some x) : ∃ b c, v = .slice (some ⟨b, 0, none⟩) l.length c ∧ h.read b i 1 = some [.int .i64 x] := by
  have hi := (List.getElem?_eq_some_iff.1 hx).1
  obtain ⟨h1, h2⟩ := hl
  rcases h2 with ⟨-, h0, -⟩ | ⟨b, c, r, rfl, -, hg, ht, hnc, hcl⟩
  · omega
  · refine ⟨b, c, rfl, read1 hg ?_⟩
    have := ints_at hx
    rw [← ht, List.getElem?_take_of_lt (by omega)] at this
    exact this
theorem ints_same {h : HP} {v1 v2 : Value} {l : List Int} {o1 o2 : Option Nat} (h1 : Lst h 1 v1 (ints l) l.length o1) (h2 : Lst h 1 v2 (ints l) l.length o2) (hmax : l.length ≤ 1048576) : CallR Tryz.prog 18 [v1, v2] h (fun u h' => u = .bool true ∧ h' = h) := by
  obtain ⟨i3, hi3, hs3, hz3, hb3⟩ := int3
  obtain ⟨p1, c1, e1⟩ := lst_slice h1
  obtain ⟨p2, c2, e2⟩ := lst_slice h2
  subst e1
  subst e2
  refine CallR.of_body1 Tryz.func18 (by kernel_rfl) rfl fun Q hQ => ?_
  show CodeR _ _ ([.slice p1 l.length c1, .slice p2 l.length c2] ++ List.replicate 24 undef) h _
  simp only [List.replicate, List.cons_append, List.nil_append]
  refine CodeR.seq (CodeR.region ?_)
  simp [OpR, xwant, lightK, lop, evl, flat, flat0, putT, thenR, List.range, List.range.loop]
  refine CodeR.seq (CodeR.seq (CodeR.region ?_))
  simp [OpR, xwant, lightK, lop, evl, flat, flat0, putT, thenR, List.range, List.range.loop, isLen, Tryz.underlying26]
  simp only [nilEq_int]
  rw [lp_neq (k := .i64) (a := (l.length : Nat)) (b := (l.length : Nat)) rfl rfl]
  simp [OpR]
  refine CodeR.cond (b := false) (by simp [evl]) ?_
  simp only [Bool.false_eq_true, if_false]
  refine CodeR.skip ?_
  simp only [thenR]
  refine CodeR.seq (CodeR.seq (CodeR.region ?_))
  simp [OpR, xwant, lightK, lop, evl, flat, flat0, putT, thenR, List.range, List.range.loop]
  refine CodeR.block ?_
  refine CodeR.loop (fun j t g => ∃ (i : Nat) (x11 x12 x13 x14 x15 x16 x17 x18 x19 x20 x21 x22 x23 x24 x25 : Value), i ≤ l.length ∧ j = l.length - i ∧ t = [.slice p1 l.length c1, .slice p2 l.length c2, undef, undef, .bool false, .int .i64 i, .slice p1 l.length c1, .int .i64 l.length, .slice p2 l.length c2, .int .i64 l.length, .bool false, x11, x12, x13, x14, x15, x16, x17, x18, x19, x20, x21, x22, x23, x24, x25] ∧ g = h) (n := l.length) ⟨0, _, _, _, _, _, _, _, _, _, _, _, _, _, _, _, Nat.zero_le _, rfl, rfl, rfl⟩ ?_
  rintro j t g ⟨i, x11, x12, x13, x14, x15, x16, x17, x18, x19, x20, x21, x22, x23, x24, x25, hi, rfl, rfl, rfl⟩
  refine CodeR.seq (CodeR.seq (CodeR.region ?_))
  simp [OpR, xwant, lightK, lop, evl, flat, flat0, putT, thenR, List.range, List.range.loop, isLen, Tryz.underlying26]
  simp only [nilEq_int]
  rw [lp_lss (k := .i64) (a := (i : Nat)) (b := (l.length : Nat)) rfl rfl]
  simp [OpR]
  by_cases hlt : i < l.length
  · refine CodeR.cond (b := true) (by simp [evl, hlt]) ?_
    simp only [if_true]
    refine CodeR.skip ?_
    simp only [thenR]
    obtain ⟨x, hx⟩ : ∃ x, l[i]? = some x := ⟨_, List.getElem?_eq_getElem hlt⟩
    obtain ⟨b1, d1, q1, r1⟩ := h1.slot hx
    obtain ⟨b2, d2, q2, r2⟩ := h2.slot hx
    cases q1
    cases q2
    refine CodeR.seq (CodeR.block (CodeR.seq (CodeR.drawn fx_any (List.range 9) [] [(b1, i), (b2, i)] (by kernel_rfl) (ag_two r1 (by simp [sameC]) r2 (by simp [sameC])) ?_)))
    simp [OpR, xwant, lightK, lop, evl, flat, flat0, putT, thenR, List.range, List.range.loop, isLen, isMM, callAt, isApp, isFn, evls, Tryz.underlying26, Tryz.underlying3, hi3, hs3, aggD, hlt, r1, r2]
    simp only [nilEq_int]
    rw [lp_neq (k := .i64) (a := x) (b := x) rfl rfl]
    simp [OpR]
    refine CodeR.cond (b := false) (by simp [evl]) ?_
    simp only [Bool.false_eq_true, if_false]
    refine CodeR.skip ?_
    simp only [thenR, blockR]
    refine CodeR.region ?_
    simp [OpR, xwant, lightK, lop, evl, flat, flat0, putT, thenR, List.range, List.range.loop]
    rw [lp_add (k := .i64) (a := (i : Nat)) (b := 1) rfl rfl]
    simp only [nilEq_int]
    have hwr : IntKind.i64.wrap ((i : Int) + 1) = ((i + 1 : Nat) : Int) := by rw [IntWalk.i64_in _ (by omega)]; omega
    rw [hwr]
    exact ⟨l.length - (i + 1), by omega, i + 1, by omega, rfl, rfl⟩
  · refine CodeR.cond (b := false) (by simp [evl, hlt]) ?_
    simp only [Bool.false_eq_true, if_false]
    refine CodeR.exit ?_
    simp only [thenR, blockR, if_true]
    refine CodeR.seq (CodeR.region ?_)
    simp [OpR, xwant, lightK, lop, evl, flat, flat0, putT, thenR, List.range, List.range.loop]
    refine CodeR.ret ?_
    try simp only [thenR, blockR]
    exact hQ _ _ _ [.bool true] (.inr rfl) rfl (.inl ⟨_, rfl, rfl, rfl⟩)
theorem rints_same {h : HP} {v1 v2 : Value} {l : List Int} {o1 o2 : Option Nat} (h1 : Lst h 1 v1 (ints l) l.length o1) (h2 : Lst h 1 v2 (ints l) l.length o2) (hmax : l.length ≤ 1048576) : CallR Tryz.prog 24 [v1, v2] h (fun u h' => u = .bool true ∧ h' = h) := by
  refine CallR.of_body1 Tryz.func24 (by kernel_rfl) rfl fun Q hQ => ?_
  show CodeR _ _ ([v1, v2] ++ List.replicate 6 undef) h _
  simp only [List.replicate, List.cons_append, List.nil_append]
  refine CodeR.seq (CodeR.region ?_)
  simp [OpR, xwant, lightK, lop, evl, flat, flat0, putT, thenR, List.range, List.range.loop]
  refine CodeR.seq (CodeR.region ?_)
  simp [OpR, xwant, lightK, lop, evl, flat, flat0, putT, thenR, List.range, List.range.loop, isLen, isMM, callAt, isApp, isFn, evls]
  refine (ints_same h1 h2 hmax).mono ?_
  rintro u h' ⟨rfl, rfl⟩
  try simp [OpR, putT]
  refine CodeR.ret ?_
  try simp only [thenR, blockR]
  exact hQ _ _ _ [.bool true] (.inr rfl) rfl (.inl ⟨_, rfl, rfl, rfl⟩)
theorem num_r (n : Int) (h : HP) : CallR Tryz.prog 11 [.int .i64 n] h (fun u h' => u = .int .i64 n ∧ h' = h) := by
  refine CallR.of_body1 Tryz.func11 (by kernel_rfl) rfl fun Q hQ => ?_
  show CodeR _ _ ([.int .i64 n] ++ List.replicate 3 undef) h _
  simp only [List.replicate, List.cons_append, List.nil_append]
  refine CodeR.seq (CodeR.region ?_)
  simp [OpR, xwant, lightK, lop, evl, flat, flat0, putT, thenR, List.range, List.range.loop]
  refine CodeR.seq (CodeR.region ?_)
  simp [OpR, xwant, lightK, lop, evl, flat, flat0, putT, thenR, List.range, List.range.loop, isLen, isMM, callAt, isApp, isFn, evls]
  refine CodeR.ret ?_
  try simp only [thenR, blockR]
  exact hQ _ _ _ [.int .i64 n] (.inr rfl) rfl (.inl ⟨_, rfl, rfl, rfl⟩)
end Go.Proofs.YteeanpfhngoobaaGreat.Xk
