/- Graph. -/
import Derived.Test.YteeanpfhngoobaaGreatZXu9
set_option linter.all false
set_option maxRecDepth 100000
namespace Go.Proofs.YteeanpfhngoobaaGreat.Xk
open Go.RowKit

section
variable {P : Program} {tm : List Value} {x y : Operand} {t u type : TypeId} {k k' : IntKind} {a b : Int} {dst : Option Tmp} {pos : String} {after : Array Edge} {guard : Option (Nat × Bool)}
theorem lp_max (hx : evl tm x = some (.int k a)) (hy : evl tm y = some (.int k' b)) : lpure P tm ⟨dst, .call ⟨.builtin .max, #[x, y], #[t, u]⟩, type, pos, after, guard⟩ = some (.int k (if b > a then b else a), []) := by
  refine lpure_is rfl (by simp [Op.operands, Call.operands, hx, hy, scal]) ?_ rfl
  have e1 : pev tm x = .int k a := by simp [pev, hx]
  have e2 : pev tm y = .int k' b := by simp [pev, hy]
  simp [execOp, resolve, invoke, builtin, pur_bind, pur_pure, e1, e2, Builtin.max_, Builtin.max2]
theorem lp_min (hx : evl tm x = some (.int k a)) (hy : evl tm y = some (.int k' b)) : lpure P tm ⟨dst, .call ⟨.builtin .min, #[x, y], #[t, u]⟩, type, pos, after, guard⟩ = some (.int k (if b < a then b else a), []) := by
  refine lpure_is rfl (by simp [Op.operands, Call.operands, hx, hy, scal]) ?_ rfl
  have e1 : pev tm x = .int k a := by simp [pev, hx]
  have e2 : pev tm y = .int k' b := by simp [pev, hy]
  simp [execOp, resolve, invoke, builtin, pur_bind, pur_pure, e1, e2, Builtin.min_, Builtin.min2]
end
def cutP (n most : Int) : Int := if n < 0 then 0 else if most < n then most else n
theorem cut_r (n most : Int) (h : HP) (hm : 0 ≤ most) : CallR Tryz.prog 20 [.int .i64 n, .int .i64 most] h (fun v h' => v = .int .i64 (cutP n most) ∧ h' = h) := by
  refine CallR.of_body1 Tryz.func20 (by kernel_rfl) rfl fun Q hQ => ?_
  show CodeR _ _ [.int .i64 n, .int .i64 most, undef, undef, undef, undef, undef, undef, undef] h _
  refine CodeR.seq (CodeR.region ?_)
  simp [OpR, xwant, lightK, lop, evl, flat, flat0, putT, thenR, List.range, List.range.loop]
  refine CodeR.seq (CodeR.region ?_)
  simp [OpR, xwant, lightK, lop, evl, flat, flat0, putT, thenR, List.range, List.range.loop, isLen, isMM, callAt, isApp, isFn, evls]
  rw [lp_max (k := .i64) (a := n) (b := 0) rfl rfl]
  dsimp only
  rw [lp_min (k := .i64) (a := if 0 > n then 0 else n) (b := most) rfl rfl]
  dsimp only
  refine CodeR.ret ?_
  refine hQ _ _ _ [_] (.inr rfl) rfl (.inl ⟨_, rfl, ?_, rfl⟩)
  refine congrArg (Value.int .i64) ?_
  unfold cutP
  (repeat' split) <;> omega
/-- A row of events lies there. -/
def EvAt (h : HP) (n : Nat) (v : Value) (L : List Ev) : Prop := (v = .slice none 0 0 ∧ L = []) ∨ ∃ b off c, v = .slice (some ⟨b, off, none⟩) L.length c ∧ b < n ∧ h.read b off (L.length * 6) = some (Go.Proofs.YteeanpfhngoobaaGreat.flat L)
theorem EvAt.keep {h h' : HP} {n : Nat} {v : Value} {L : List Ev} (he : EvAt h n v L) (hk : Keep n h h') : EvAt h' n v L := by
  rcases he with he | ⟨b, off, c, h1, h2, h3⟩
  · exact .inl he
  · refine .inr ⟨b, off, c, h1, h2, ?_⟩
    unfold HP.read at h3 ⊢
    rw [hk.2 b h2]
    exact h3
theorem flat_at : ∀ (L : List Ev) (i : Nat) (e : Ev), L[i]? = some e → ((Go.Proofs.YteeanpfhngoobaaGreat.flat L).drop (i * 6)).take 6 = evC e
  | [], i, e, h => by simp at h
  | x :: L, 0, e, h => by
    cases h
    show ((x.c ++ Go.Proofs.YteeanpfhngoobaaGreat.flat L).drop 0).take 6 = evC x
    rfl
  | x :: L, i + 1, e, h => by
    have := flat_at L i e (by simpa using h)
    rw [← this]
    show ((x.c ++ Go.Proofs.YteeanpfhngoobaaGreat.flat L).drop ((i + 1) * 6)).take 6 = _
    rw [List.drop_append, show ((i + 1) * 6 - x.c.length) = i * 6 by simp [Ev.c]; omega, List.drop_eq_nil_of_le (by simp [Ev.c]; omega)]
    rfl
theorem EvAt.at_ {h : HP} {n : Nat} {b off c i : Nat} {L : List Ev} {e : Ev} (hr : h.read b off (L.length * 6) = some (Go.Proofs.YteeanpfhngoobaaGreat.flat L)) (hi : L[i]? = some e) : h.read b (off + i * 6) 6 = some (evC e) := by
  have hlt := (List.getElem?_eq_some_iff.1 hi).1
  have hf := flat_at L i e hi
  obtain ⟨r, hg, hl, hle, hq⟩ := read_ok hr
  unfold HP.read
  rw [hg]
  dsimp only
  rw [if_pos ⟨hl, by omega⟩, ← hf, hq]
  congr 1
  rw [List.drop_take, List.take_take, List.drop_drop, Nat.min_eq_left (by omega)]
theorem alloc28 {tm : List Value} {h : HP} {dst : Option Tmp} {type : TypeId} {pos : String} {after : Array Edge} {guard : Option (Nat × Bool)} : hop Tryz.prog noneK tm h ⟨dst, .alloc 28, type, pos, after, guard⟩ = some (.pointer (some ⟨h.nb, 0, none⟩), h.push ⟨[.slice none 0 0, .slice none 0 0], 1, true⟩) := by kernel_rfl
theorem alloc60 {tm : List Value} {h : HP} {dst : Option Tmp} {type : TypeId} {pos : String} {after : Array Edge} {guard : Option (Nat × Bool)} : hop Tryz.prog noneK tm h ⟨dst, .alloc 60, type, pos, after, guard⟩ = some (.pointer (some ⟨h.nb, 0, none⟩), h.push ⟨[.slice none 0 0, .slice none 0 0, .slice none 0 0, .map none, .int .i64 0, .int .i64 0], 1, true⟩) := by kernel_rfl
theorem alloc46 {tm : List Value} {h : HP} {dst : Option Tmp} {type : TypeId} {pos : String} {after : Array Edge} {guard : Option (Nat × Bool)} : hop Tryz.prog noneK tm h ⟨dst, .alloc 46, type, pos, after, guard⟩ = some (.pointer (some ⟨h.nb, 0, none⟩), h.push ⟨[.int .i64 0, .string ⟨#[]⟩, .string ⟨#[]⟩, .string ⟨#[]⟩, .int .i64 0, .bool false], 1, true⟩) := by kernel_rfl
theorem bld60 (D K : Int) : pur Tryz.prog (Instr.build 60 #[(3, .int .i64 D), (4, .int .i64 K)]) = some (.agg #[.slice none 0 0, .slice none 0 0, .slice none 0 0, .map none, .int .i64 D, .int .i64 K]) := by kernel_rfl
theorem bld28 : pur Tryz.prog (Instr.build 28 #[]) = some (.agg #[.slice none 0 0, .slice none 0 0]) := by kernel_rfl
theorem zero60 : zeroC Tryz.prog 60 = true := by kernel_rfl
theorem zero28 : zeroC Tryz.prog 28 = true := by kernel_rfl
theorem size46 : ∃ i, Tryz.prog.info? 46 = some i ∧ i.size = 6 := info_size (by kernel_rfl)
theorem size60 : ∃ i, Tryz.prog.info? 60 = some i ∧ i.size = 6 := info_size (by kernel_rfl)
end Go.Proofs.YteeanpfhngoobaaGreat.Xk
