/- begin. -/
import Derived.Test.YteeanpfhngoobaaGreatZXu4
set_option linter.all false
set_option maxRecDepth 100000
namespace Go.Proofs.YteeanpfhngoobaaGreat.Xk
open Go.RowKit

section
variable {h h' : HP} {M : Nat} {N : List Nd} {R O : List Int} {T : List Value} {D K : Int} {ns rs os : Value} {mp on r oo : Option Nat} {kv : List Value} {oks : List (Option Nat)}
/-- What is open turns. -/
theorem MK.opens (hk : MK h M N R O T D K ns rs os mp on r oo kv oks) {os' : Value} {oo' : Option Nat} {O' : List Int} (hc : h'.get M = some ⟨[ns, rs, os', .map mp, .int .i64 D, .int .i64 K], 1, true⟩) (hl : Lst h' 1 os' (ints O') O'.length oo')
    (he : Else h h' (M :: oo.toList)) (hr : oo' = oo ∨ ∃ b, oo' = some b ∧ h.nb ≤ b) : MK h' M N R O' T D K ns rs os' mp on r oo' kv oks := by
  obtain ⟨a1, a2⟩ := List.nodup_cons.1 hk.apart
  obtain ⟨b1, b2, b3⟩ := List.nodup_append.1 a2
  obtain ⟨c1, c2, c3⟩ := List.nodup_append.1 b2
  obtain ⟨d1, d2, d3⟩ := List.nodup_append.1 c2
  have rest : ∀ b, (b ∈ on.toList ∨ b ∈ r.toList ∨ b ∈ mp.toList ∨ b ∈ oks.flatMap (·.toList)) → b ∉ M :: oo.toList := fun b hb hm => by
    rcases List.mem_cons.1 hm with rfl | hm
    · exact a1 (by simp at hb ⊢; rcases hb with hb | hb | hb | hb <;> simp [hb])
    · rcases hb with hb | hb | hb | hb
      · exact b3 b hb b (by simp at hm ⊢; simp [hm]) rfl
      · exact c3 b hb b (by simp at hm ⊢; simp [hm]) rfl
      · exact d3 b hm b (by simp at hb ⊢; simp [hb]) rfl
      · exact d3 b hm b (List.mem_append_right _ hb) rfl
  refine { cells := hc, nodes := hk.nodes.else he fun b hb => rest b (by simp [hb]), roots := hk.roots.else he fun b hb => rest b (by simp [hb]), opn := hl, names := mread_else hk.names he fun b hb => rest b (by simp [hb]), lk := hk.lk, lo := hk.lo, kids := fun i x v o h1 h2 h3 => (hk.kids i x v o h1 h2 h3).else he fun b hb => rest b (.inr (.inr (.inr (ok_mem h3 hb)))), apart := ?_ }
  have := nodup_turn (A := M :: (on.toList ++ r.toList)) (X := mp.toList ++ oks.flatMap (·.toList)) (r := oo) (r' := oo') (n := h.nb) (by simpa [ownL, List.append_assoc] using hk.apart) (fun c hc => hk.lt c (by simpa [ownL, List.append_assoc] using hc)) hr
  simpa [ownL, List.append_assoc] using this
end
theorem nums_ints (O : List Nat) (t : Nat) : ints (nums (O ++ [t])) = ints (nums O) ++ [.int .i64 (t : Int)] := by simp [nums, ints]
/-- One more is open. -/
theorem MS.opened {h : HP} {M n : Nat} {N : List Nd} {R : List Int} {O : List Nat} {T : List Value} {D K : Int} (hs : MS h M n N R O T D K) (hmax : O.length + 1 ≤ 5864062014805) (t : Nat) :
    CallR Tryz.prog 66 [.pointer (some ⟨M, 2, none⟩), .int .i64 (t : Int)] h (fun _ h' => Keep n h h' ∧ MS h' M n N R (O ++ [t]) T D K) := by
  obtain ⟨hle, ns, rs, os, mp, on, r, oo, kv, oks, hk, hl⟩ := hs
  have hM : oo ≠ some M := fun e => by
    have := (List.nodup_cons.1 hk.apart).1
    exact this (by simp [e])
  refine (push_r (off := 2) (x := (t : Int)) hk.cells rfl hk.opn hM (by rw [nums_len]; exact hmax)).mono fun v h' ⟨v', own', hc, hl2, he, hr⟩ => ?_
  have hk' := hk.opens (O' := nums (O ++ [t])) (os' := v') (oo' := own') hc (by rw [nums_ints, nums_len, List.length_append, List.length_singleton]; rw [nums_len] at hl2; exact hl2) he hr
  have hin : ∀ b ∈ M :: oo.toList, n ≤ b := fun b hb => hl b (by
    unfold ownL
    simp only [List.mem_cons, List.mem_append] at hb ⊢
    rcases hb with hb | hb
    · exact .inl hb
    · exact .inr (.inr (.inr (.inl hb))))
  refine ⟨Keep.of_else he hin hle, by have := he.1; omega, ns, rs, v', mp, on, r, own', kv, oks, hk', fun b hb => ?_⟩
  unfold ownL at hb hl
  simp only [List.mem_cons, List.mem_append] at hb hl
  rcases hb with hb | hb | hb | hb | hb
  · exact hl b (.inl hb)
  · exact hl b (.inr (.inl hb))
  · exact hl b (.inr (.inr (.inl hb)))
  · rcases hr with rfl | ⟨c, rfl, hc⟩
    · exact hl b (.inr (.inr (.inr (.inl hb))))
    · have : b = c := by simpa using hb
      omega
  · exact hl b (.inr (.inr (.inr (.inr hb))))
/-- One less is open. -/
theorem MS.shut {h : HP} {M n : Nat} {N : List Nd} {R : List Int} {O : List Nat} {t : Nat} {T : List Value} {D K : Int} (hs : MS h M n N R (O ++ [t]) T D K) (hmax : O.length + 1 ≤ 5864062014805) :
    CallR Tryz.prog 39 [.pointer (some ⟨M, 2, none⟩)] h (fun _ h' => Keep n h h' ∧ MS h' M n N R O T D K) := by
  obtain ⟨hle, ns, rs, os, mp, on, r, oo, kv, oks, hk, hl⟩ := hs
  have hM : oo ≠ some M := fun e => by
    have := (List.nodup_cons.1 hk.apart).1
    exact this (by simp [e])
  have hop := hk.opn
  rw [nums_ints, nums_len, List.length_append, List.length_singleton] at hop
  refine (pop_r (off := 2) (x := (t : Int)) hk.cells rfl hop hM hmax).mono fun v h' ⟨_, v', hc, hl2, he⟩ => ?_
  have he2 : Else h h' (M :: oo.toList) := ⟨he.1, fun k hk2 hkl => he.2 k hk2 (by simp at hkl ⊢; exact hkl.1)⟩
  have hk' := hk.opens (O' := nums O) (os' := v') (oo' := oo) hc (by rw [nums_len]; exact hl2) he2 (.inl rfl)
  have hin : ∀ b ∈ M :: oo.toList, n ≤ b := fun b hb => hl b (by
    unfold ownL
    simp only [List.mem_cons, List.mem_append] at hb ⊢
    rcases hb with hb | hb
    · exact .inl hb
    · exact .inr (.inr (.inr (.inl hb))))
  exact ⟨Keep.of_else he2 hin hle, by have := he.1; omega, ns, rs, v', mp, on, r, oo, kv, oks, hk', hl⟩
end Go.Proofs.YteeanpfhngoobaaGreat.Xk
set_option maxRecDepth 100000
namespace Go.Proofs.YteeanpfhngoobaaGreat.Xk
open Go.RowKit

/-- The maker's lists. -/
structure PS where
  N : List Nd
  R : List Int
  O : List Nat
  T : List Value
def beginP (D K : Int) (s : PS) (nd : Nd) (an : ByteArray) : Int × PS :=
  if (s.O.length : Int) = D then (8, s)
  else match addP s.N s.R s.O s.T K nd an with
    | none => (9, s)
    | some (N', R', T') => (0, ⟨N', R', s.O ++ [s.N.length], T'⟩)
set_option maxHeartbeats 2000000 in
theorem begin_r {h : HP} {M n : Nat} {s : PS} {D K : Int} {i : Nat} (hs : MS h M n s.N s.R s.O s.T D K) (hb : Bd s.N s.R s.O i) (hi1 : i + 2 ≤ 1048576) (nd : Nd) (hnd : nd.kids = []) (an : ByteArray) :
    CallR Tryz.prog 38 [.pointer (some ⟨M, 0, none⟩), .agg (ndCells nd).toArray, .string an] h (fun v h' => Keep n h h' ∧ v = .int .i64 (beginP D K s nd an).1 ∧
      ((beginP D K s nd an).1 = 0 → MS h' M n (beginP D K s nd an).2.N (beginP D K s nd an).2.R (beginP D K s nd an).2.O (beginP D K s nd an).2.T D K)) := by
  obtain ⟨N, R, O, T⟩ := s
  dsimp only at hs hb ⊢
  have hlt := hs.le
  have hs1 := hs.push ⟨ndCells nd, 1, true⟩
  have hgb : (h.push ⟨ndCells nd, 1, true⟩).get h.nb = some ⟨ndCells nd, 1, true⟩ := get_push_new _
  have hkeep : Keep n h (h.push ⟨ndCells nd, 1, true⟩) := ⟨by show h.nb ≤ h.nb + 1; omega, fun k hk => get_push_old _ (by omega)⟩
  obtain ⟨h1, hh1⟩ : ∃ h1, h.push ⟨ndCells nd, 1, true⟩ = h1 := ⟨_, rfl⟩
  have hnb : h1.nb = h.nb + 1 := by rw [← hh1]; rfl
  rw [hh1] at hs1 hgb hkeep
  have hh2 : h.push ⟨[.int .i64 nd.k, .string nd.tg, .string nd.tx, .slice none 0 0, .bool nd.pl], 1, true⟩ = h1 := hh1
  have hrb : h1.read h.nb 0 5 = some (ndCells nd) := by
    unfold HP.read
    rw [hgb]
    rfl
  have hcopy := hs1
  obtain ⟨-, ns, rs, os, mp, on, r, oo, kv, oks, hk, -⟩ := hcopy
  have hg := hk.cells
  have hrd := read1 hg (o := 0) (v := ns) rfl
  have hrD := read1 hg (o := 4) (v := .int .i64 D) rfl
  have hopn := hk.opn
  rw [nums_len] at hopn
  obtain ⟨p, c, hsl⟩ := lst_slice hk.nodes
  subst hsl
  obtain ⟨i28, hi28, hs28⟩ := size28
  obtain ⟨i25, hi25, hs25⟩ := size25
  obtain ⟨i51, hi51, hs51⟩ := size51k
  obtain ⟨i3, hi3, hs3, hz3, hb3⟩ := int3
  obtain ⟨i55, hi55, hs55⟩ := size55
  refine CallR.of_body1 Tryz.func38 (by kernel_rfl) rfl fun Q hQ => ?_
  show CodeR _ _ ([.pointer (some ⟨M, 0, none⟩), .agg (ndCells nd).toArray, .string an] ++ List.replicate 33 undef) h _
  simp only [List.replicate, List.cons_append, List.nil_append]
  refine CodeR.seq (CodeR.region ?_)
  simp [OpR, xwant, lightK, lop, evl, flat, flat0, putT, thenR, List.range, List.range.loop, hop, callAt, cellsOf, isCell, ndCells]
  rw [hh2]
  refine CodeR.seq (CodeR.seq (CodeR.drawn fx_any [0, 1, 2, 4, 5, 6, 7, 3, 8] [] [(M, 4)] (by kernel_rfl) (ag_one hrD (by simp [sameC])) ?_))
  simp [OpR, xwant, lightK, lop, evl, flat, flat0, putT, thenR, List.range, List.range.loop, Tryz.underlying60, Tryz.underlying55, hi55, hs55, Tryz.underlying3, hi3, hs3, aggD, hrD, isLen, isMM, callAt, isApp, isFn, evls]
  refine (size_r (off := 2) hg rfl hopn).mono ?_
  rintro u h' ⟨rfl, rfl⟩
  refine ⟨ag_one hrD (by simp [sameC]), ?_⟩
  simp only [nilEq_int]
  rw [lp_eql (k := .i64) (a := (O.length : Nat)) (b := D) rfl rfl]
  simp [OpR]
  by_cases hD : (O.length : Int) = D
  · refine CodeR.cond (b := true) (by simp [evl, hD]) ?_
    simp only [if_true]
    refine CodeR.seq (CodeR.region ?_)
    simp [OpR, xwant, lightK, lop, evl, flat, flat0, putT, thenR, List.range, List.range.loop]
    refine CodeR.ret ?_
    have hp : beginP D K ⟨N, R, O, T⟩ nd an = (8, ⟨N, R, O, T⟩) := if_pos hD
    refine hQ _ _ _ [.int .i64 8] (.inr rfl) rfl (.inl ⟨_, rfl, hkeep, ?_⟩)
    rw [hp]
    exact ⟨rfl, fun e => by cases e⟩
  · refine CodeR.cond (b := false) (by simp [evl, hD]) ?_
    simp only [Bool.false_eq_true, if_false]
    refine CodeR.skip ?_
    simp only [thenR]
    refine CodeR.seq (CodeR.region ?_)
    simp [OpR, xwant, lightK, lop, evl, flat, flat0, putT, thenR, List.range, List.range.loop, Tryz.underlying60, Tryz.underlying28, Tryz.underlying25, hi28, hs28, hi25, hs25, aggD, hrd, isLen, isMM, callAt, isApp, isFn, evls]
    refine CodeR.seq (CodeR.seq (CodeR.region ?_))
    simp [OpR, xwant, lightK, lop, evl, flat, flat0, putT, thenR, List.range, List.range.loop, Tryz.underlying51, hi51, hs51, aggD, hrb, isLen, isMM, callAt, isApp, isFn, evls]
    refine (add_r hs1 hb hi1 nd hnd an).mono ?_
    rintro u h4 ⟨hkeep4, hres⟩
    have hp : beginP D K ⟨N, R, O, T⟩ nd an = match addP N R O T K nd an with
      | none => (9, ⟨N, R, O, T⟩)
      | some (N', R', T') => (0, ⟨N', R', O ++ [N.length], T'⟩) := if_neg hD
    have hbo := hb.o
    cases hadd : addP N R O T K nd an with
    | none =>
      rw [hadd] at hres hp
      have hu : u = .int .i64 9 := hres
      subst hu
      refine CodeR.seq (CodeR.region ?_)
      simp [OpR, xwant, lightK, lop, evl, flat, flat0, putT, thenR, List.range, List.range.loop]
      simp only [nilEq_int]
      rw [lp_neq (k := .i64) (a := 9) (b := 0) rfl rfl]
      simp [OpR]
      refine CodeR.cond (b := true) (by simp [evl]) ?_
      simp only [if_true]
      refine CodeR.seq (CodeR.region ?_)
      simp [OpR, xwant, lightK, lop, evl, flat, flat0, putT, thenR, List.range, List.range.loop]
      refine CodeR.ret ?_
      refine hQ _ _ _ [.int .i64 9] (.inr rfl) rfl (.inl ⟨_, rfl, hkeep.trans hkeep4, ?_⟩)
      rw [hp]
      exact ⟨rfl, fun e => by cases e⟩
    | some q =>
      obtain ⟨N', R', T'⟩ := q
      rw [hadd] at hres hp
      obtain ⟨hu, hs4⟩ : u = .int .i64 0 ∧ MS h4 M n N' R' O T' D K := hres
      subst hu
      refine CodeR.seq (CodeR.region ?_)
      simp [OpR, xwant, lightK, lop, evl, flat, flat0, putT, thenR, List.range, List.range.loop]
      simp only [nilEq_int]
      rw [lp_neq (k := .i64) (a := 0) (b := 0) rfl rfl]
      simp [OpR]
      refine CodeR.cond (b := false) (by simp [evl]) ?_
      simp only [Bool.false_eq_true, if_false]
      refine CodeR.skip ?_
      simp only [thenR]
      refine CodeR.seq (CodeR.region ?_)
      simp [OpR, xwant, lightK, lop, evl, flat, flat0, putT, thenR, List.range, List.range.loop, Tryz.underlying60, hi55, hs55, isLen, isMM, callAt, isApp, isFn, evls]
      refine (hs4.opened (by omega) N.length).mono ?_
      rintro u2 h5 ⟨hkeep5, hs5⟩
      refine CodeR.seq (CodeR.region ?_)
      simp [OpR, xwant, lightK, lop, evl, flat, flat0, putT, thenR, List.range, List.range.loop]
      refine CodeR.ret ?_
      refine hQ _ _ _ [.int .i64 0] (.inr rfl) rfl (.inl ⟨_, rfl, (hkeep.trans hkeep4).trans hkeep5, ?_⟩)
      rw [hp]
      exact ⟨rfl, fun _ => hs5⟩
end Go.Proofs.YteeanpfhngoobaaGreat.Xk
set_option maxRecDepth 100000
namespace Go.Proofs.YteeanpfhngoobaaGreat.Xk
open Go.RowKit

theorem lp_not {P : Program} {tm : List Value} {x : Operand} {t type : TypeId} {dst : Option Tmp} {pos : String} {after : Array Edge} {guard : Option (Nat × Bool)} {z : Bool} (hx : evl tm x = some (.bool z)) : lpure P tm ⟨dst, .unOp .not t x, type, pos, after, guard⟩ = some (.bool !z, []) := lop_not (h := ⟨0, []⟩) hx
def aliasP (s : PS) (an : ByteArray) : Int × PS :=
  match mfind an s.T 0 with
  | some (_, .int _ k) => (0, ⟨(putN s.N s.R s.O k).1, (putN s.N s.R s.O k).2, s.O, s.T⟩)
  | _ => (10, s)
theorem MS.mread {h : HP} {M n : Nat} {N : List Nd} {R : List Int} {O : List Nat} {T : List Value} {D K : Int} (hs : MS h M n N R O T D K) : ∃ mp, h.read M 3 1 = some [.map mp] ∧ Xk.mread h mp = some T := by
  obtain ⟨-, ns, rs, os, mp, on, r, oo, kv, oks, hk, -⟩ := hs
  exact ⟨mp, read1 hk.cells rfl, hk.names⟩
set_option maxHeartbeats 2000000 in
theorem alias_r {h : HP} {M n : Nat} {s : PS} {D K : Int} {i : Nat} (hs : MS h M n s.N s.R s.O s.T D K) (hb : Bd s.N s.R s.O i) (hi1 : i + 1 ≤ 1048576) (hT : intsM s.T) (an : ByteArray) :
    CallR Tryz.prog 40 [.pointer (some ⟨M, 0, none⟩), .string an] h (fun v h' => Keep n h h' ∧ v = .int .i64 (aliasP s an).1 ∧
      ((aliasP s an).1 = 0 → MS h' M n (aliasP s an).2.N (aliasP s an).2.R (aliasP s an).2.O (aliasP s an).2.T D K)) := by
  obtain ⟨N, R, O, T⟩ := s
  dsimp only at hs hb hT ⊢
  obtain ⟨mp, hrm, hmr⟩ := hs.mread
  have hv : lookV an T = .tuple #[.int .i64 0, .bool false] ∧ aliasP ⟨N, R, O, T⟩ an = (10, ⟨N, R, O, T⟩) ∨ ∃ k, lookV an T = .tuple #[.int .i64 k, .bool true] ∧ aliasP ⟨N, R, O, T⟩ an = (0, ⟨(putN N R O k).1, (putN N R O k).2, O, T⟩) := by
    unfold lookV aliasP
    dsimp only
    cases hm : mfind an T 0 with
    | none => exact .inl ⟨rfl, rfl⟩
    | some q =>
      obtain ⟨j, u⟩ := q
      obtain ⟨k, rfl⟩ := hT an j u hm
      exact .inr ⟨k, rfl, rfl⟩
  refine CallR.of_body1 Tryz.func40 (by kernel_rfl) rfl fun Q hQ => ?_
  show CodeR _ _ ([.pointer (some ⟨M, 0, none⟩), .string an] ++ List.replicate 18 undef) h _
  simp only [List.replicate, List.cons_append, List.nil_append]
  refine CodeR.seq (CodeR.region ?_)
  simp [OpR, xwant, lightK, lop, evl, flat, flat0, putT, thenR, List.range, List.range.loop]
  refine CodeR.seq (CodeR.region ?_)
  simp [OpR, xwant, lightK, lop, evl, flat, flat0, putT, thenR, List.range, List.range.loop, Tryz.underlying60, isLen, isMM, callAt, isApp, isFn, evls]
  refine (get_r (off := 3) (s := an) hrm hmr hT).mono ?_
  rintro u h' ⟨rfl, rfl⟩
  rcases hv with ⟨e1, e2⟩ | ⟨k, e1, e2⟩
  · rw [e1]
    simp [OpR, xwant, lightK, lop, evl, flat, flat0, putT, thenR, noTup]
    refine CodeR.seq (CodeR.seq (CodeR.region ?_))
    simp [OpR, xwant, lightK, lop, evl, flat, flat0, putT, thenR, List.range, List.range.loop]
    rw [lp_not (z := false) rfl]
    simp [OpR]
    refine CodeR.cond (b := true) (by simp [evl]) ?_
    simp only [if_true]
    refine CodeR.seq (CodeR.region ?_)
    simp [OpR, xwant, lightK, lop, evl, flat, flat0, putT, thenR, List.range, List.range.loop]
    refine CodeR.ret ?_
    refine hQ _ _ _ [.int .i64 10] (.inr rfl) rfl (.inl ⟨_, rfl, Keep.refl _ _, ?_⟩)
    rw [e2]
    exact ⟨rfl, fun e => by cases e⟩
  · rw [e1]
    simp [OpR, xwant, lightK, lop, evl, flat, flat0, putT, thenR, noTup]
    refine CodeR.seq (CodeR.seq (CodeR.region ?_))
    simp [OpR, xwant, lightK, lop, evl, flat, flat0, putT, thenR, List.range, List.range.loop]
    rw [lp_not (z := true) rfl]
    simp [OpR]
    refine CodeR.cond (b := false) (by simp [evl]) ?_
    simp only [Bool.false_eq_true, if_false]
    refine CodeR.skip ?_
    simp only [thenR]
    refine CodeR.seq (CodeR.region ?_)
    simp [OpR, xwant, lightK, lop, evl, flat, flat0, putT, thenR, List.range, List.range.loop, isLen, isMM, callAt, isApp, isFn, evls]
    refine (put_r hs hb hi1 k).mono ?_
    rintro u2 h5 ⟨hkeep5, hs5⟩
    refine CodeR.seq (CodeR.region ?_)
    simp [OpR, xwant, lightK, lop, evl, flat, flat0, putT, thenR, List.range, List.range.loop]
    refine CodeR.ret ?_
    refine hQ _ _ _ [.int .i64 0] (.inr rfl) rfl (.inl ⟨_, rfl, hkeep5, ?_⟩)
    rw [e2]
    exact ⟨rfl, fun _ => hs5⟩
end Go.Proofs.YteeanpfhngoobaaGreat.Xk
