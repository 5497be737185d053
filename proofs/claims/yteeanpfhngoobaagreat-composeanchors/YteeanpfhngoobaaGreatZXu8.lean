/- take. -/
import Derived.Test.YteeanpfhngoobaaGreatZXu7
import Derived.Test.YteeanpfhngoobaaGreatZXrt
set_option linter.all false
set_option maxRecDepth 100000
namespace Go.Proofs.YteeanpfhngoobaaGreat.Xk
open Go.RowKit

theorem bld7 (tg tx : ByteArray) (b : Bool) : pur Tryz.prog (Instr.build 51 #[(0, .int .i64 1), (1, .string tg), (2, .string tx), (4, .bool b)]) = some (.agg #[.int .i64 1, .string tg, .string tx, .slice none 0 0, .bool b]) := by kernel_rfl
theorem bld2 (tg : ByteArray) : pur Tryz.prog (Instr.build 51 #[(0, .int .i64 2), (1, .string tg)]) = some (.agg #[.int .i64 2, .string tg, .string ⟨#[]⟩, .slice none 0 0, .bool false]) := by kernel_rfl
theorem bld3 (tg : ByteArray) : pur Tryz.prog (Instr.build 51 #[(0, .int .i64 3), (1, .string tg)]) = some (.agg #[.int .i64 3, .string tg, .string ⟨#[]⟩, .slice none 0 0, .bool false]) := by kernel_rfl
theorem all5 {a b c d e : Value} (h : isCell a = true ∧ isCell b = true ∧ isCell c = true ∧ isCell d = true ∧ isCell e = true) : ∀ (i : Nat) (x : i < (#[a, b, c, d, e] : Array Value).size), isCell (#[a, b, c, d, e] : Array Value)[i] = true := by
  obtain ⟨h0, h1, h2, h3, h4⟩ := h
  intro i hi
  match i, hi with
  | 0, _ => exact h0
  | 1, _ => exact h1
  | 2, _ => exact h2
  | 3, _ => exact h3
  | 4, _ => exact h4
  | i + 5, hi => exact absurd hi (by simp)
theorem all5L {a b c d e : Value} (h : isCell a = true ∧ isCell b = true ∧ isCell c = true ∧ isCell d = true ∧ isCell e = true) : ∀ (i : Nat) (x : i < 5), isCell ([a, b, c, d, e] : List Value)[i] = true := fun i hi => all5 h i hi
theorem co_b (b : Bool) : cellsOf (.bool b) = some [.bool b] := rfl
theorem co_i (k : IntKind) (n : Int) : cellsOf (.int k n) = some [.int k n] := rfl
theorem co_s (s : ByteArray) : cellsOf (.string s) = some [.string s] := rfl
theorem zero51 : zeroC Tryz.prog 51 = true := by kernel_rfl
theorem size9 : ∃ i, Tryz.prog.info? 9 = some i ∧ i.size = 1 := info_size (by kernel_rfl)
def evC (e : Ev) : List Value := [.int .i64 e.k, .string e.tx, .string e.tg, .string e.an, .int .i64 e.st, .bool e.fl]
/-- No names. -/
theorem MS.emptied {h : HP} {M n : Nat} {N : List Nd} {R : List Int} {O : List Nat} {T : List Value} {D K : Int} (hs : MS h M n N R O T D K) :
    CallR Tryz.prog 36 [.pointer (some ⟨M, 3, none⟩)] h (fun _ h' => Keep n h h' ∧ MS h' M n N R O [] D K) := by
  obtain ⟨hle, ns, rs, os, mp, on, r, oo, kv, oks, hk, hl⟩ := hs
  refine (empty_r (off := 3) hk.cells rfl).mono fun v h' hh => ?_
  have hg : h'.get M = some ⟨[ns, rs, os, .map none, .int .i64 D, .int .i64 K], 1, true⟩ := by rw [hh]; exact get_put_same hk.cells _
  have he : Else h h' [M] := by rw [hh]; exact ⟨Nat.le_refl _, fun k hk2 hkl => get_put_ne hk.cells _ (by simpa using hkl)⟩
  obtain ⟨a1, a2⟩ := List.nodup_cons.1 hk.apart
  have rest : ∀ b, (b ∈ on.toList ∨ b ∈ r.toList ∨ b ∈ oo.toList ∨ b ∈ oks.flatMap (·.toList)) → b ∉ [M] := fun b hb hm => by
    obtain rfl := List.mem_singleton.1 hm
    exact a1 (by simp at hb ⊢; rcases hb with hb | hb | hb | hb <;> simp [hb])
  have hsub : List.Sublist (ownL M on r oo none oks) (ownL M on r oo mp oks) := by
    unfold ownL
    refine List.Sublist.cons_cons _ ((List.Sublist.refl _).append ((List.Sublist.refl _).append ((List.Sublist.refl _).append ?_)))
    simp
  have hk' : MK h' M N R (nums O) [] D K ns rs os none on r oo kv oks := { cells := hg, nodes := hk.nodes.else he fun b hb => rest b (by simp [hb]), roots := hk.roots.else he fun b hb => rest b (by simp [hb]), opn := hk.opn.else he fun b hb => rest b (by simp [hb]), names := rfl, lk := hk.lk, lo := hk.lo, kids := fun i x v o h1 h2 h3 => (hk.kids i x v o h1 h2 h3).else he fun b hb => rest b (.inr (.inr (.inr (ok_mem h3 hb)))), apart := hk.apart.sublist hsub }
  refine ⟨Keep.of_else he (fun b hb => hl b (by unfold ownL; simp at hb ⊢; exact .inl hb)) hle, by have := he.1; omega, ns, rs, os, none, on, r, oo, kv, oks, hk', fun b hb => hl b ?_⟩
  unfold ownL at hb ⊢
  simp only [List.mem_cons, List.mem_append, Option.toList_none, List.not_mem_nil, false_or] at hb ⊢
  rcases hb with hb | hb | hb | hb | hb
  · exact .inl hb
  · exact .inr (.inl hb)
  · exact .inr (.inr (.inl hb))
  · exact .inr (.inr (.inr (.inl hb)))
  · exact .inr (.inr (.inr (.inr (.inr hb))))
def ndOf (e : Ev) : Nd := if e.k = 7 then ⟨1, e.tg, e.tx, [], e.st == 1⟩ else ⟨if e.k = 3 then 2 else 3, e.tg, ⟨#[]⟩, [], false⟩
def takeP (D K : Int) (s : PS) (e : Ev) : Int × PS :=
  if e.k = 1 then (0, ⟨s.N, s.R, s.O, []⟩)
  else if e.k = 7 then (match addP s.N s.R s.O s.T K (ndOf e) e.an with
    | none => (9, s)
    | some (N', R', T') => (0, ⟨N', R', s.O, T'⟩))
  else if e.k = 3 ∨ e.k = 5 then beginP D K s (ndOf e) e.an
  else if e.k = 4 ∨ e.k = 6 then (0, ⟨s.N, s.R, s.O.dropLast, s.T⟩)
  else if e.k = 8 then aliasP s e.an
  else (0, s)
set_option maxHeartbeats 4000000 in
theorem take_r {h : HP} {M n : Nat} {s : PS} {D K : Int} {i : Nat} (hs : MS h M n s.N s.R s.O s.T D K) (hb : Bd s.N s.R s.O i) (hi1 : i + 2 ≤ 1048576) (hT : intsM s.T) (e : Ev) (hO : (e.k = 4 ∨ e.k = 6) → s.O ≠ []) :
    CallR Tryz.prog 21 [.pointer (some ⟨M, 0, none⟩), .agg (evC e).toArray] h (fun v h' => Keep n h h' ∧ v = .int .i64 (takeP D K s e).1 ∧
      ((takeP D K s e).1 = 0 → MS h' M n (takeP D K s e).2.N (takeP D K s e).2.R (takeP D K s e).2.O (takeP D K s e).2.T D K)) := by
  obtain ⟨N, R, O, T⟩ := s
  dsimp only at hs hb hT hO ⊢
  have hlt := hs.le
  have hs1 := hs.push ⟨evC e, 1, true⟩
  have hgb : (h.push ⟨evC e, 1, true⟩).get h.nb = some ⟨evC e, 1, true⟩ := get_push_new _
  have hkeep : Keep n h (h.push ⟨evC e, 1, true⟩) := ⟨by show h.nb ≤ h.nb + 1; omega, fun k hk => get_push_old _ (by omega)⟩
  obtain ⟨h1, hh1⟩ : ∃ h1, h.push ⟨evC e, 1, true⟩ = h1 := ⟨_, rfl⟩
  rw [hh1] at hs1 hgb hkeep
  have hh2 : h.push ⟨[.int .i64 e.k, .string e.tx, .string e.tg, .string e.an, .int .i64 e.st, .bool e.fl], 1, true⟩ = h1 := hh1
  have r0 := read1 hgb (o := 0) (v := .int .i64 e.k) rfl
  have r1 := read1 hgb (o := 1) (v := .string e.tx) rfl
  have r2 := read1 hgb (o := 2) (v := .string e.tg) rfl
  have r3 := read1 hgb (o := 3) (v := .string e.an) rfl
  have r4 := read1 hgb (o := 4) (v := .int .i64 e.st) rfl
  obtain ⟨i3, hi3, hs3, hz3, hb3⟩ := int3
  obtain ⟨i51, hi51, hs51, hz51, hb51⟩ := node51
  obtain ⟨i9, hi9, hs9⟩ := size9
  obtain ⟨i51, hi51, hs51, hz51, hb51⟩ := node51
  obtain ⟨i9, hi9, hs9⟩ := size9
  obtain ⟨i55, hi55, hs55⟩ := size55
  obtain ⟨i51, hi51, hs51, hz51, hb51⟩ := node51
  obtain ⟨i9, hi9, hs9⟩ := size9
  obtain ⟨i55, hi55, hs55⟩ := size55
  obtain ⟨i51, hi51, hs51, hz51, hb51⟩ := node51
  obtain ⟨i9, hi9, hs9⟩ := size9
  obtain ⟨i55, hi55, hs55⟩ := size55
  obtain ⟨i51, hi51, hs51, hz51, hb51⟩ := node51
  obtain ⟨i9, hi9, hs9⟩ := size9
  obtain ⟨i55, hi55, hs55⟩ := size55
  obtain ⟨i51, hi51, hs51, hz51, hb51⟩ := node51
  obtain ⟨i9, hi9, hs9⟩ := size9
  obtain ⟨i55, hi55, hs55⟩ := size55
  refine CallR.of_body1 Tryz.func21 (by kernel_rfl) rfl fun Q hQ => ?_
  show CodeR _ _ ([.pointer (some ⟨M, 0, none⟩), .agg (evC e).toArray] ++ List.replicate 56 undef) h _
  simp only [List.replicate, List.cons_append, List.nil_append]
  refine CodeR.seq (CodeR.region ?_)
  simp [OpR, xwant, lightK, lop, evl, flat, flat0, putT, thenR, List.range, List.range.loop, hop, callAt, cellsOf, isCell, evC]
  rw [hh2]
  have hrl : ∀ q, takeP D K ⟨N, R, O, T⟩ e = q → (q.1 = (takeP D K ⟨N, R, O, T⟩ e).1 ∧ q = takeP D K ⟨N, R, O, T⟩ e) := fun q h => ⟨by rw [h], h.symm⟩
  refine CodeR.seq (CodeR.seq (CodeR.region ?_))
  simp [OpR, xwant, lightK, lop, evl, flat, flat0, putT, thenR, List.range, List.range.loop, Tryz.underlying46, Tryz.underlying60, Tryz.underlying51, Tryz.underlying3, Tryz.underlying9, hi3, hs3, hi9, hs9, hi51, hs51, hz51, aggD, isLen, isMM, callAt, isApp, isFn, evls, r0, r1, r2, r3, r4]
  refine CodeR.block ?_
  refine CodeR.seq (CodeR.region ?_)
  simp [OpR, xwant, lightK, lop, evl, flat, flat0, putT, thenR, List.range, List.range.loop, Tryz.underlying46, Tryz.underlying60, Tryz.underlying51, Tryz.underlying3, Tryz.underlying9, hi3, hs3, hi9, hs9, hi51, hs51, hz51, aggD, isLen, isMM, callAt, isApp, isFn, evls, r0, r1, r2, r3, r4]
  simp only [nilEq_int]
  rw [lp_eql (k := .i64) (a := e.k) (b := 1) rfl rfl]
  simp [OpR, xwant, lightK, lop, evl, flat, flat0, putT, thenR, List.range, List.range.loop, Tryz.underlying46, Tryz.underlying60, Tryz.underlying51, Tryz.underlying3, Tryz.underlying9, hi3, hs3, hi9, hs9, hi51, hs51, hz51, aggD, isLen, isMM, callAt, isApp, isFn, evls, r0, r1, r2, r3, r4]
  by_cases k1 : e.k = 1
  · refine CodeR.cond (b := true) (by simp [evl, k1]) ?_
    simp only [if_true]
    have hp : takeP D K ⟨N, R, O, T⟩ e = (0, ⟨N, R, O, []⟩) := if_pos k1
    refine CodeR.region ?_
    simp [OpR, xwant, lightK, lop, evl, flat, flat0, putT, thenR, List.range, List.range.loop, Tryz.underlying46, Tryz.underlying60, Tryz.underlying51, Tryz.underlying3, Tryz.underlying9, hi3, hs3, hi9, hs9, hi51, hs51, hz51, aggD, isLen, isMM, callAt, isApp, isFn, evls, r0, r1, r2, r3, r4]
    refine hs1.emptied.mono ?_
    rintro u h4 ⟨hkeep4, hs4⟩
    try simp [OpR, putT, thenR, blockR]
    refine CodeR.seq (CodeR.region ?_)
    simp [OpR, xwant, lightK, lop, evl, flat, flat0, putT, thenR, List.range, List.range.loop, Tryz.underlying46, Tryz.underlying60, Tryz.underlying51, Tryz.underlying3, Tryz.underlying9, hi3, hs3, hi9, hs9, hi51, hs51, hz51, aggD, isLen, isMM, callAt, isApp, isFn, evls, r0, r1, r2, r3, r4]
    refine CodeR.ret ?_
    refine hQ _ _ _ [.int .i64 0] (.inr rfl) rfl (.inl ⟨_, rfl, hkeep.trans hkeep4, ?_⟩)
    rw [hp]
    exact ⟨rfl, fun _ => hs4⟩
  · refine CodeR.cond (b := false) (by simp [evl, k1]) ?_
    simp only [Bool.false_eq_true, if_false]
    refine CodeR.seq (CodeR.region ?_)
    simp [OpR, xwant, lightK, lop, evl, flat, flat0, putT, thenR, List.range, List.range.loop, Tryz.underlying46, Tryz.underlying60, Tryz.underlying51, Tryz.underlying3, Tryz.underlying9, hi3, hs3, hi9, hs9, hi51, hs51, hz51, aggD, isLen, isMM, callAt, isApp, isFn, evls, r0, r1, r2, r3, r4]
    simp only [nilEq_int]
    rw [lp_eql (k := .i64) (a := e.k) (b := 7) rfl rfl]
    simp [OpR, xwant, lightK, lop, evl, flat, flat0, putT, thenR, List.range, List.range.loop, Tryz.underlying46, Tryz.underlying60, Tryz.underlying51, Tryz.underlying3, Tryz.underlying9, hi3, hs3, hi9, hs9, hi51, hs51, hz51, aggD, isLen, isMM, callAt, isApp, isFn, evls, r0, r1, r2, r3, r4]
    by_cases k7 : e.k = 7
    · refine CodeR.cond (b := true) (by simp [evl, k7]) ?_
      simp only [if_true]
      have hnd : (ndCells (ndOf e)).toArray = #[.int .i64 1, .string e.tg, .string e.tx, .slice none 0 0, .bool (e.st == 1)] := by unfold ndOf; rw [if_pos k7]; rfl
      have A := add_r hs1 hb hi1 (ndOf e) (by unfold ndOf; rw [if_pos k7]) e.an
      rw [hnd] at A
      have hp : takeP D K ⟨N, R, O, T⟩ e = (match addP N R O T K (ndOf e) e.an with | none => (9, ⟨N, R, O, T⟩) | some (N', R', T') => (0, ⟨N', R', O, T'⟩)) := (if_neg k1).trans (if_pos k7)
      refine CodeR.seq (CodeR.region ?_)
      simp [OpR, xwant, lightK, lop, evl, flat, flat0, putT, thenR, List.range, List.range.loop, Tryz.underlying46, Tryz.underlying60, Tryz.underlying51, Tryz.underlying3, Tryz.underlying9, hi3, hs3, hi9, hs9, hi51, hs51, hz51, aggD, isLen, isMM, callAt, isApp, isFn, evls, r0, r1, r2, r3, r4]
      simp only [nilEq_int]
      rw [lp_eql (k := .i64) (a := e.st) (b := 1) rfl rfl]
      simp [OpR, xwant, lightK, lop, evl, flat, flat0, putT, thenR, List.range, List.range.loop, Tryz.underlying46, Tryz.underlying60, Tryz.underlying51, Tryz.underlying3, Tryz.underlying9, hi3, hs3, hi9, hs9, hi51, hs51, hz51, aggD, isLen, isMM, callAt, isApp, isFn, evls, r0, r1, r2, r3, r4, evps, co_b, co_i, co_s, zero51, bld7]
      rw [if_pos (all5L ⟨rfl, rfl, rfl, rfl, rfl⟩)]
      refine A.mono ?_
      rintro u h4 ⟨hkeep4, hres⟩
      refine CodeR.ret ?_
      refine hQ _ _ _ [u] (.inr rfl) rfl (.inl ⟨_, rfl, hkeep.trans hkeep4, ?_⟩)
      rw [hp]
      cases hadd : addP N R O T K (ndOf e) e.an with
      | none =>
        rw [hadd] at hres
        exact ⟨hres, fun e => by cases e⟩
      | some q =>
        obtain ⟨N', R', T'⟩ := q
        rw [hadd] at hres
        exact ⟨hres.1, fun _ => hres.2⟩
    · refine CodeR.cond (b := false) (by simp [evl, k7]) ?_
      simp only [Bool.false_eq_true, if_false]
      refine CodeR.seq (CodeR.region ?_)
      simp [OpR, xwant, lightK, lop, evl, flat, flat0, putT, thenR, List.range, List.range.loop, Tryz.underlying46, Tryz.underlying60, Tryz.underlying51, Tryz.underlying3, Tryz.underlying9, hi3, hs3, hi9, hs9, hi51, hs51, hz51, aggD, isLen, isMM, callAt, isApp, isFn, evls, r0, r1, r2, r3, r4]
      simp only [nilEq_int]
      rw [lp_eql (k := .i64) (a := e.k) (b := 3) rfl rfl]
      simp [OpR, xwant, lightK, lop, evl, flat, flat0, putT, thenR, List.range, List.range.loop, Tryz.underlying46, Tryz.underlying60, Tryz.underlying51, Tryz.underlying3, Tryz.underlying9, hi3, hs3, hi9, hs9, hi51, hs51, hz51, aggD, isLen, isMM, callAt, isApp, isFn, evls, r0, r1, r2, r3, r4]
      by_cases k3 : e.k = 3
      · refine CodeR.cond (b := true) (by simp [evl, k3]) ?_
        simp only [if_true]
        have hnd : (ndCells (ndOf e)).toArray = #[.int .i64 2, .string e.tg, .string ⟨#[]⟩, .slice none 0 0, .bool false] := by unfold ndOf; rw [if_neg k7]; simp only [k3, if_true]; rfl
        have A := begin_r (s := ⟨N, R, O, T⟩) hs1 hb hi1 (ndOf e) (by unfold ndOf; rw [if_neg k7]) e.an
        rw [hnd] at A
        have hp : takeP D K ⟨N, R, O, T⟩ e = beginP D K ⟨N, R, O, T⟩ (ndOf e) e.an := (if_neg k1).trans ((if_neg k7).trans (if_pos (.inl k3)))
        refine CodeR.seq (CodeR.region ?_)
        simp [OpR, xwant, lightK, lop, evl, flat, flat0, putT, thenR, List.range, List.range.loop, Tryz.underlying46, Tryz.underlying60, Tryz.underlying51, Tryz.underlying3, Tryz.underlying9, hi3, hs3, hi9, hs9, hi51, hs51, hz51, aggD, isLen, isMM, callAt, isApp, isFn, evls, r0, r1, r2, r3, r4, evps, co_b, co_i, co_s, zero51, bld2, bld3]
        rw [if_pos ⟨rfl, rfl, rfl, rfl, rfl⟩]
        refine A.mono ?_
        rintro u h4 ⟨hkeep4, hu, hres⟩
        refine CodeR.ret ?_
        refine hQ _ _ _ [u] (.inr rfl) rfl (.inl ⟨_, rfl, hkeep.trans hkeep4, ?_⟩)
        rw [hp]
        exact ⟨hu, hres⟩
      · refine CodeR.cond (b := false) (by simp [evl, k3]) ?_
        simp only [Bool.false_eq_true, if_false]
        refine CodeR.seq (CodeR.region ?_)
        simp [OpR, xwant, lightK, lop, evl, flat, flat0, putT, thenR, List.range, List.range.loop, Tryz.underlying46, Tryz.underlying60, Tryz.underlying51, Tryz.underlying3, Tryz.underlying9, hi3, hs3, hi9, hs9, hi51, hs51, hz51, aggD, isLen, isMM, callAt, isApp, isFn, evls, r0, r1, r2, r3, r4]
        simp only [nilEq_int]
        rw [lp_eql (k := .i64) (a := e.k) (b := 5) rfl rfl]
        simp [OpR, xwant, lightK, lop, evl, flat, flat0, putT, thenR, List.range, List.range.loop, Tryz.underlying46, Tryz.underlying60, Tryz.underlying51, Tryz.underlying3, Tryz.underlying9, hi3, hs3, hi9, hs9, hi51, hs51, hz51, aggD, isLen, isMM, callAt, isApp, isFn, evls, r0, r1, r2, r3, r4]
        by_cases k5 : e.k = 5
        · refine CodeR.cond (b := true) (by simp [evl, k5]) ?_
          simp only [if_true]
          have hnd : (ndCells (ndOf e)).toArray = #[.int .i64 3, .string e.tg, .string ⟨#[]⟩, .slice none 0 0, .bool false] := by unfold ndOf; rw [if_neg k7]; simp only [if_neg k3]; rfl
          have A := begin_r (s := ⟨N, R, O, T⟩) hs1 hb hi1 (ndOf e) (by unfold ndOf; rw [if_neg k7]) e.an
          rw [hnd] at A
          have hp : takeP D K ⟨N, R, O, T⟩ e = beginP D K ⟨N, R, O, T⟩ (ndOf e) e.an := (if_neg k1).trans ((if_neg k7).trans (if_pos (.inr k5)))
          refine CodeR.seq (CodeR.region ?_)
          simp [OpR, xwant, lightK, lop, evl, flat, flat0, putT, thenR, List.range, List.range.loop, Tryz.underlying46, Tryz.underlying60, Tryz.underlying51, Tryz.underlying3, Tryz.underlying9, hi3, hs3, hi9, hs9, hi51, hs51, hz51, aggD, isLen, isMM, callAt, isApp, isFn, evls, r0, r1, r2, r3, r4, evps, co_b, co_i, co_s, zero51, bld2, bld3]
          rw [if_pos ⟨rfl, rfl, rfl, rfl, rfl⟩]
          refine A.mono ?_
          rintro u h4 ⟨hkeep4, hu, hres⟩
          refine CodeR.ret ?_
          refine hQ _ _ _ [u] (.inr rfl) rfl (.inl ⟨_, rfl, hkeep.trans hkeep4, ?_⟩)
          rw [hp]
          exact ⟨hu, hres⟩
        · refine CodeR.cond (b := false) (by simp [evl, k5]) ?_
          simp only [Bool.false_eq_true, if_false]
          have hE : ∀ t, t ∈ [()] → True := fun _ _ => trivial
          refine CodeR.seq (CodeR.seq (CodeR.region ?_))
          simp [OpR, xwant, lightK, lop, evl, flat, flat0, putT, thenR, List.range, List.range.loop, Tryz.underlying46, Tryz.underlying60, Tryz.underlying51, Tryz.underlying3, Tryz.underlying9, hi3, hs3, hi9, hs9, hi51, hs51, hz51, aggD, isLen, isMM, callAt, isApp, isFn, evls, r0, r1, r2, r3, r4]
          simp only [nilEq_int]
          rw [lp_eql (k := .i64) (a := e.k) (b := 4) rfl rfl]
          simp [OpR, xwant, lightK, lop, evl, flat, flat0, putT, thenR, List.range, List.range.loop, Tryz.underlying46, Tryz.underlying60, Tryz.underlying51, Tryz.underlying3, Tryz.underlying9, hi3, hs3, hi9, hs9, hi51, hs51, hz51, aggD, isLen, isMM, callAt, isApp, isFn, evls, r0, r1, r2, r3, r4]
          by_cases k46 : e.k = 4 ∨ e.k = 6
          · obtain ⟨O2, t2, hO2⟩ : ∃ O2 t2, O = O2 ++ [t2] := ⟨_, _, (List.dropLast_concat_getLast (hO k46)).symm⟩
            subst hO2
            have P := hs1.shut (by have := hb.o; simp at this; omega)
            have hp : takeP D K ⟨N, R, O2 ++ [t2], T⟩ e = (0, ⟨N, R, O2, T⟩) := by
              refine (if_neg k1).trans ((if_neg k7).trans ((if_neg (fun c => c.elim k3 k5)).trans ((if_pos k46).trans ?_)))
              simp
            by_cases k4 : e.k = 4
            · refine CodeR.cond (b := true) (by simp [evl, k4]) ?_
              simp only [if_true]
              refine CodeR.skip ?_
              simp only [thenR]
              refine CodeR.cond (b := true) (by simp [evl, k4]) ?_
              simp only [if_true]
              refine CodeR.region ?_
              simp [OpR, xwant, lightK, lop, evl, flat, flat0, putT, thenR, List.range, List.range.loop, Tryz.underlying46, Tryz.underlying60, Tryz.underlying51, Tryz.underlying3, Tryz.underlying9, hi3, hs3, hi9, hs9, hi51, hs51, hz51, aggD, isLen, isMM, callAt, isApp, isFn, evls, r0, r1, r2, r3, r4, hi55, hs55]
              refine P.mono ?_
              rintro u h4 ⟨hkeep4, hs4⟩
              try simp [OpR, putT, thenR, blockR]
              refine CodeR.seq (CodeR.region ?_)
              simp [OpR, xwant, lightK, lop, evl, flat, flat0, putT, thenR, List.range, List.range.loop, Tryz.underlying46, Tryz.underlying60, Tryz.underlying51, Tryz.underlying3, Tryz.underlying9, hi3, hs3, hi9, hs9, hi51, hs51, hz51, aggD, isLen, isMM, callAt, isApp, isFn, evls, r0, r1, r2, r3, r4]
              refine CodeR.ret ?_
              refine hQ _ _ _ [.int .i64 0] (.inr rfl) rfl (.inl ⟨_, rfl, hkeep.trans hkeep4, ?_⟩)
              rw [hp]
              exact ⟨rfl, fun _ => hs4⟩
            · have k6 : e.k = 6 := k46.resolve_left k4
              refine CodeR.cond (b := false) (by simp [evl, k4]) ?_
              simp only [Bool.false_eq_true, if_false]
              refine CodeR.region ?_
              simp [OpR, xwant, lightK, lop, evl, flat, flat0, putT, thenR, List.range, List.range.loop, Tryz.underlying46, Tryz.underlying60, Tryz.underlying51, Tryz.underlying3, Tryz.underlying9, hi3, hs3, hi9, hs9, hi51, hs51, hz51, aggD, isLen, isMM, callAt, isApp, isFn, evls, r0, r1, r2, r3, r4]
              simp only [nilEq_int]
              rw [lp_eql (k := .i64) (a := e.k) (b := 6) rfl rfl]
              simp [OpR, xwant, lightK, lop, evl, flat, flat0, putT, thenR, List.range, List.range.loop, Tryz.underlying46, Tryz.underlying60, Tryz.underlying51, Tryz.underlying3, Tryz.underlying9, hi3, hs3, hi9, hs9, hi51, hs51, hz51, aggD, isLen, isMM, callAt, isApp, isFn, evls, r0, r1, r2, r3, r4]
              refine CodeR.cond (b := true) (by simp [evl, k6]) ?_
              simp only [if_true]
              refine CodeR.region ?_
              simp [OpR, xwant, lightK, lop, evl, flat, flat0, putT, thenR, List.range, List.range.loop, Tryz.underlying46, Tryz.underlying60, Tryz.underlying51, Tryz.underlying3, Tryz.underlying9, hi3, hs3, hi9, hs9, hi51, hs51, hz51, aggD, isLen, isMM, callAt, isApp, isFn, evls, r0, r1, r2, r3, r4, hi55, hs55]
              refine P.mono ?_
              rintro u h4 ⟨hkeep4, hs4⟩
              try simp [OpR, putT, thenR, blockR]
              refine CodeR.seq (CodeR.region ?_)
              simp [OpR, xwant, lightK, lop, evl, flat, flat0, putT, thenR, List.range, List.range.loop, Tryz.underlying46, Tryz.underlying60, Tryz.underlying51, Tryz.underlying3, Tryz.underlying9, hi3, hs3, hi9, hs9, hi51, hs51, hz51, aggD, isLen, isMM, callAt, isApp, isFn, evls, r0, r1, r2, r3, r4]
              refine CodeR.ret ?_
              refine hQ _ _ _ [.int .i64 0] (.inr rfl) rfl (.inl ⟨_, rfl, hkeep.trans hkeep4, ?_⟩)
              rw [hp]
              exact ⟨rfl, fun _ => hs4⟩
          · have k4 : ¬ e.k = 4 := fun c => k46 (.inl c)
            have k6 : ¬ e.k = 6 := fun c => k46 (.inr c)
            refine CodeR.cond (b := false) (by simp [evl, k4]) ?_
            simp only [Bool.false_eq_true, if_false]
            refine CodeR.region ?_
            simp [OpR, xwant, lightK, lop, evl, flat, flat0, putT, thenR, List.range, List.range.loop, Tryz.underlying46, Tryz.underlying60, Tryz.underlying51, Tryz.underlying3, Tryz.underlying9, hi3, hs3, hi9, hs9, hi51, hs51, hz51, aggD, isLen, isMM, callAt, isApp, isFn, evls, r0, r1, r2, r3, r4]
            simp only [nilEq_int]
            rw [lp_eql (k := .i64) (a := e.k) (b := 6) rfl rfl]
            simp [OpR, xwant, lightK, lop, evl, flat, flat0, putT, thenR, List.range, List.range.loop, Tryz.underlying46, Tryz.underlying60, Tryz.underlying51, Tryz.underlying3, Tryz.underlying9, hi3, hs3, hi9, hs9, hi51, hs51, hz51, aggD, isLen, isMM, callAt, isApp, isFn, evls, r0, r1, r2, r3, r4]
            refine CodeR.cond (b := false) (by simp [evl, k6]) ?_
            simp only [Bool.false_eq_true, if_false]
            refine CodeR.seq (CodeR.region ?_)
            simp [OpR, xwant, lightK, lop, evl, flat, flat0, putT, thenR, List.range, List.range.loop, Tryz.underlying46, Tryz.underlying60, Tryz.underlying51, Tryz.underlying3, Tryz.underlying9, hi3, hs3, hi9, hs9, hi51, hs51, hz51, aggD, isLen, isMM, callAt, isApp, isFn, evls, r0, r1, r2, r3, r4]
            simp only [nilEq_int]
            rw [lp_eql (k := .i64) (a := e.k) (b := 8) rfl rfl]
            simp [OpR, xwant, lightK, lop, evl, flat, flat0, putT, thenR, List.range, List.range.loop, Tryz.underlying46, Tryz.underlying60, Tryz.underlying51, Tryz.underlying3, Tryz.underlying9, hi3, hs3, hi9, hs9, hi51, hs51, hz51, aggD, isLen, isMM, callAt, isApp, isFn, evls, r0, r1, r2, r3, r4]
            by_cases k8 : e.k = 8
            · refine CodeR.cond (b := true) (by simp [evl, k8]) ?_
              simp only [if_true]
              have A := alias_r (s := ⟨N, R, O, T⟩) hs1 hb (by omega) hT e.an
              have hp : takeP D K ⟨N, R, O, T⟩ e = aliasP ⟨N, R, O, T⟩ e.an := (if_neg k1).trans ((if_neg k7).trans ((if_neg (fun c => c.elim k3 k5)).trans ((if_neg k46).trans (if_pos k8))))
              refine CodeR.seq (CodeR.region ?_)
              simp [OpR, xwant, lightK, lop, evl, flat, flat0, putT, thenR, List.range, List.range.loop, Tryz.underlying46, Tryz.underlying60, Tryz.underlying51, Tryz.underlying3, Tryz.underlying9, hi3, hs3, hi9, hs9, hi51, hs51, hz51, aggD, isLen, isMM, callAt, isApp, isFn, evls, r0, r1, r2, r3, r4]
              refine A.mono ?_
              rintro u h4 ⟨hkeep4, hu, hres⟩
              refine CodeR.ret ?_
              refine hQ _ _ _ [u] (.inr rfl) rfl (.inl ⟨_, rfl, hkeep.trans hkeep4, ?_⟩)
              rw [hp]
              exact ⟨hu, hres⟩
            · refine CodeR.cond (b := false) (by simp [evl, k8]) ?_
              simp only [Bool.false_eq_true, if_false]
              have hp : takeP D K ⟨N, R, O, T⟩ e = (0, ⟨N, R, O, T⟩) := (if_neg k1).trans ((if_neg k7).trans ((if_neg (fun c => c.elim k3 k5)).trans ((if_neg k46).trans (if_neg k8))))
              refine CodeR.skip ?_
              try simp only [thenR, blockR]
              refine CodeR.seq (CodeR.region ?_)
              simp [OpR, xwant, lightK, lop, evl, flat, flat0, putT, thenR, List.range, List.range.loop, Tryz.underlying46, Tryz.underlying60, Tryz.underlying51, Tryz.underlying3, Tryz.underlying9, hi3, hs3, hi9, hs9, hi51, hs51, hz51, aggD, isLen, isMM, callAt, isApp, isFn, evls, r0, r1, r2, r3, r4]
              refine CodeR.ret ?_
              refine hQ _ _ _ [.int .i64 0] (.inr rfl) rfl (.inl ⟨_, rfl, hkeep, ?_⟩)
              rw [hp]
              exact ⟨rfl, fun _ => hs1⟩
end Go.Proofs.YteeanpfhngoobaaGreat.Xk
