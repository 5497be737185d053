/- The top of a stack, in the run's memory. -/
import Derived.Test.YteeanpfhngoobaaGreatZXt5
import Derived.Test.YteeanpfhngoobaaGreatZXal
import Derived.IntWalk
set_option linter.all false
set_option maxRecDepth 100000
namespace Go.Proofs.YteeanpfhngoobaaGreat.Xk
open Go.RowKit

section
variable {P : Program} {h : HP} {tm : List Value} {x y : Operand} {t yt type : TypeId} {k : IntKind} {a b : Int} {dst : Option Tmp} {pos : String} {after : Array Edge} {guard : Option (Nat × Bool)}
theorem lp_of {op : BinOp} {v : Value} (hx : evl tm x = some (.int k a)) (hy : evl tm y = some (.int k b)) (hr : lop P tm h ⟨dst, .binOp op t x y yt, type, pos, after, guard⟩ = some (v, [])) :
    lpure P tm ⟨dst, .binOp op t x y yt, type, pos, after, guard⟩ = some (v, []) := by
  have hn : ((evl tm x).bind fun a => (evl tm y).bind fun b => nilEq P op t a b) = none := by rw [hx, hy]; rfl
  have h2 : (match (evl tm x).bind fun a => (evl tm y).bind fun b => nilEq P op t a b with | some z => some (Value.bool z, []) | none => lpure P tm ⟨dst, .binOp op t x y yt, type, pos, after, guard⟩) = some (v, []) := hr
  rw [hn] at h2
  exact h2
theorem lp_sub (hx : evl tm x = some (.int k a)) (hy : evl tm y = some (.int k b)) : lpure P tm ⟨dst, .binOp .sub t x y yt, type, pos, after, guard⟩ = some (.int k (k.wrap (a - b)), []) := lp_of (h := ⟨0, []⟩) hx hy (lop_sub hx hy)
theorem lp_add (hx : evl tm x = some (.int k a)) (hy : evl tm y = some (.int k b)) : lpure P tm ⟨dst, .binOp .add t x y yt, type, pos, after, guard⟩ = some (.int k (k.wrap (a + b)), []) := lp_of (h := ⟨0, []⟩) hx hy (lop_add hx hy)
theorem lp_eql (hx : evl tm x = some (.int k a)) (hy : evl tm y = some (.int k b)) : lpure P tm ⟨dst, .binOp .eql t x y yt, type, pos, after, guard⟩ = some (.bool (a == b), []) := lp_of (h := ⟨0, []⟩) hx hy (lop_eql hx hy)
theorem lp_neq (hx : evl tm x = some (.int k a)) (hy : evl tm y = some (.int k b)) : lpure P tm ⟨dst, .binOp .neq t x y yt, type, pos, after, guard⟩ = some (.bool (a != b), []) := lp_of (h := ⟨0, []⟩) hx hy (lop_neq hx hy)
theorem lp_lss (hx : evl tm x = some (.int k a)) (hy : evl tm y = some (.int k b)) : lpure P tm ⟨dst, .binOp .lss t x y yt, type, pos, after, guard⟩ = some (.bool (decide (a < b)), []) := lp_of (h := ⟨0, []⟩) hx hy (lop_lss hx hy)
theorem lp_gtr (hx : evl tm x = some (.int k a)) (hy : evl tm y = some (.int k b)) : lpure P tm ⟨dst, .binOp .gtr t x y yt, type, pos, after, guard⟩ = some (.bool (decide (b < a)), []) := lp_of (h := ⟨0, []⟩) hx hy (lop_gtr hx hy)
theorem nilEq_int {op : BinOp} {v : Value} : nilEq P op t (.int k a) v = none := by cases v <;> rfl
end
theorem sameC_slice {p : Option Addr} {n c : Nat} : sameC (.slice p n c) (.slice p n c) = true := by simp [sameC]
theorem ag_one {h : HP} {b o : Nat} {v : Value} (hr : h.read b o 1 = some [v]) (hs : sameC v v = true) : AG [(b, o)] h h := fun p hp => by
  rw [List.mem_singleton.1 hp]
  unfold sameAt
  dsimp only
  rw [hr]
  exact hs
theorem top_r {M off e n : Nat} {v : Value} {cs L : List Value} {own : Option Nat} {h : HP} (hg : h.get M = some ⟨cs, e, true⟩) (hc : cs[off]? = some v) (hl : Lst h 1 v L n own) (h0 : 0 < n) (hmax : n ≤ 5864062014805) :
    CallR Tryz.prog 67 [.pointer (some ⟨M, off, none⟩)] h (fun u h' => ∃ b, own = some b ∧ u = .pointer (some ⟨b, n - 1, none⟩) ∧ h' = h) := by
  have hrd := read1 hg hc
  rcases hl.2 with ⟨-, rfl, -⟩ | ⟨b, c, r, rfl, rfl, hgb, ht, hnc, hcl⟩
  · omega
  obtain ⟨i26, hi26, hs26⟩ := size26
  obtain ⟨i, hi, hs, hz, hb⟩ := int3
  have hw : IntKind.i64.wrap ((n : Int) - 1) = ((n - 1 : Nat) : Int) := by rw [IntWalk.i64_in _ (by omega)]; omega
  refine CallR.of_body1 Tryz.func67 (by kernel_rfl) rfl fun Q hQ => ?_
  show CodeR _ _ [.pointer (some ⟨M, off, none⟩), undef, undef, undef, undef, undef, undef, undef, undef, undef, undef, undef, undef, undef] h _
  refine CodeR.seq (CodeR.region ?_)
  simp [OpR, xwant, lightK, lop, evl, flat, flat0, putT, thenR, List.range, List.range.loop]
  refine CodeR.seq (CodeR.drawn fx_any (List.range 12) [] [(M, off)] (by kernel_rfl) (ag_one hrd sameC_slice) ?_)
  simp [OpR, xwant, lightK, lop, evl, flat, flat0, putT, thenR, List.range, List.range.loop, Tryz.underlying55, Tryz.underlying26, hi26, hs26, hi, hs, aggD, hrd, isLen, isMM, callAt, nilEq_int]
  rw [lp_sub (k := .i64) (a := n) (b := 1) rfl rfl, hw]
  simp [hi, hs]
  rw [if_pos (by omega)]
  dsimp only
  refine ⟨by simp, ?_⟩
  refine CodeR.ret ?_
  exact hQ _ _ _ [_] (.inr rfl) rfl (.inl ⟨_, rfl, _, rfl, rfl, rfl⟩)
end Go.Proofs.YteeanpfhngoobaaGreat.Xk
set_option maxRecDepth 100000
namespace Go.Proofs.YteeanpfhngoobaaGreat.Xk
open Go.RowKit

theorem pop_r {M off e n : Nat} {v : Value} {cs L : List Value} {own : Option Nat} {x : Int} {h : HP} (hg : h.get M = some ⟨cs, e, true⟩) (hc : cs[off]? = some v) (hl : Lst h 1 v (L ++ [.int .i64 x]) (n + 1) own) (hM : own ≠ some M) (hmax : n + 1 ≤ 5864062014805) (he : e ≠ 0 := by first | assumption | decide) :
    CallR Tryz.prog 39 [.pointer (some ⟨M, off, none⟩)] h (fun u h' => u = .int .i64 x ∧ ∃ v', h'.get M = some ⟨cs.set off v', e, true⟩ ∧ Lst h' 1 v' L n own ∧ Else h h' [M]) := by
  have hrd := read1 hg hc
  have hlt := (List.getElem?_eq_some_iff.1 hc).1
  obtain ⟨hlen, hl2⟩ := hl
  have hl0 : Lst h 1 v (L ++ [.int .i64 x]) (n + 1) own := ⟨hlen, hl2⟩
  have hLn : L.length = n := by simp at hlen; omega
  rcases hl2 with ⟨-, h0, -⟩ | ⟨b, c, r, rfl, rfl, hgb, ht, hnc, hcl⟩
  · omega
  obtain ⟨i26, hi26, hs26⟩ := size26
  obtain ⟨i, hi, hs, hz, hb⟩ := int3
  have hw : IntKind.i64.wrap (((n + 1 : Nat) : Int) - 1) = (n : Int) := by rw [IntWalk.i64_in _ (by omega)]; omega
  have hx : r[n]? = some (.int .i64 x) := by
    have : (r.take ((n + 1) * 1))[n]? = some (.int .i64 x) := by
      rw [ht, List.getElem?_append_right (by omega), hLn, Nat.sub_self]
      rfl
    rwa [List.getElem?_take_of_lt (by omega)] at this
  have hrx := read1 hgb hx
  refine CallR.of_body1 Tryz.func39 (by kernel_rfl) rfl fun Q hQ => ?_
  show CodeR _ _ [.pointer (some ⟨M, off, none⟩), undef, undef, undef, undef, undef, undef, undef, undef, undef, undef, undef, undef, undef, undef, undef, undef, undef, undef, undef, undef, undef, undef] h _
  refine CodeR.seq (CodeR.region ?_)
  simp [OpR, xwant, lightK, lop, evl, flat, flat0, putT, thenR, List.range, List.range.loop]
  refine CodeR.seq (CodeR.region ?_)
  simp [OpR, xwant, lightK, lop, evl, flat, flat0, putT, thenR, List.range, List.range.loop, isLen, isMM, callAt, isApp, isFn, evls]
  refine (top_r hg hc hl0 (by omega) hmax).mono ?_
  rintro u h' ⟨b', hb', rfl, rfl⟩
  cases hb'
  have hu3 := Tryz.underlying3
  simp [OpR, xwant, lightK, lop, evl, flat, flat0, putT, thenR, List.range, List.range.loop, isLen, isMM, callAt, isApp, isFn, evls, Tryz.underlying3, hi, aggD, hrx]
  have hslc : slc h' (some ⟨b, 0, none⟩) (n + 1) c 1 0 n = some (.slice (some ⟨b, 0, none⟩) n c) := by
    unfold slc
    rw [if_pos ⟨by omega, by omega⟩]
    dsimp only
    rw [hgb]
    dsimp only
    rw [if_pos ⟨rfl, by decide⟩, if_pos (by omega)]
    simp
  refine CodeR.seq (CodeR.drawn fx_any (List.range 15) [14] [(M, off)] (by kernel_rfl) (ag_one hrd sameC_slice) ?_)
  have hwr := write1 hg hlt (.slice (some ⟨b, 0, none⟩) n c)
  have hg2 := get_put_same hg ⟨cs.set off (.slice (some ⟨b, 0, none⟩) n c), e, true⟩
  simp [OpR, xwant, lightK, lop, evl, flat, flat0, putT, thenR, List.range, List.range.loop, Tryz.underlying55, Tryz.underlying26, hi26, hs26, hi, hs, aggD, hrd, isLen, isMM, callAt, nilEq_int]
  rw [lp_sub (k := .i64) (a := (n + 1 : Nat)) (b := 1) rfl rfl, hw]
  simp [hi, hs, bnd, evl, hslc, callAt]
  rw [hop_store (b := M) (off := off) (v := .slice (some ⟨b, 0, none⟩) n c) hi26 rfl rfl rfl (by rw [hs26]; rfl) rfl hwr]
  dsimp only
  refine CodeR.seq (CodeR.region ?_)
  simp [OpR, xwant, lightK, lop, evl, flat, flat0, putT, thenR, List.range, List.range.loop]
  refine CodeR.ret ?_
  have he : Else h' (h'.put M ⟨cs.set off (.slice (some ⟨b, 0, none⟩) n c), e, true⟩) [M] := ⟨Nat.le_refl _, fun k hk hkl => get_put_ne hg _ (by simpa using hkl)⟩
  refine hQ _ _ _ [.int .i64 x] (.inr rfl) rfl (.inl ⟨_, rfl, rfl, _, hg2, ?_, he⟩)
  have hl3 : Lst h' 1 (.slice (some ⟨b, 0, none⟩) n c) L n (some b) := by
    refine ⟨by omega, .inr ⟨b, c, r, rfl, rfl, hgb, ?_, by omega, hcl⟩⟩
    have := congrArg (List.take n) ht
    rw [List.take_take, List.take_left' hLn] at this
    rw [Nat.mul_one, ← this]
    congr 1
    omega
  exact hl3.else he fun b' hb' hm => by
    cases hb'
    simp at hm
    subst hm
    exact hM rfl
end Go.Proofs.YteeanpfhngoobaaGreat.Xk
