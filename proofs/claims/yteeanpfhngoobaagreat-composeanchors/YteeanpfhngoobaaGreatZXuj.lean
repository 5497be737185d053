/- SameInts, num, of what is the same. -/
import Derived.Test.YteeanpfhngoobaaGreatZXuh
set_option linter.all false
set_option maxRecDepth 100000
namespace Go.Proofs.YteeanpfhngoobaaGreat.Xk
open Go.RowKit

theorem ints_at {l : List Int} {i : Nat} {x : Int} (h : l[i]? = some x) : (ints l)[i]? = some (.int .i64 x) := by simp [ints, h]
theorem Lst.slot {h : HP} {v : Value} {l : List Int} {o : Option Nat} {i : Nat} {x : Int} (hl : Lst h 1 v (ints l) l.length o) (hx : l[i]? = some x) : ∃ b c, v = .slice (some ⟨b, 0, none⟩) l.length c ∧ h.read b i 1 = some [.int .i64 x] := by
  have hi := (List.getElem?_eq_some_iff.1 hx).1
  obtain ⟨h1, h2⟩ := hl
  rcases h2 with ⟨-, h0, -⟩ | ⟨b, c, r, rfl, -, hg, ht, hnc, hcl⟩
  · omega
  · refine ⟨b, c, rfl, read1 hg ?_⟩
    have := ints_at hx
    rw [← ht, List.getElem?_take_of_lt (by omega)] at this
    exact this
theorem ints_same {h : HP} {v1 v2 : Value} {l : List Int} {o1 o2 : Option Nat} (h1 : Lst h 1 v1 (ints l) l.length o1) (h2 : Lst h 1 v2 (ints l) l.length o2) (hmax : l.length ≤ 5864062014805) : CallR Tryz.prog 18 [v1, v2] h (fun u h' => u = .bool true ∧ h' = h) := by
  obtain ⟨i3, hi3, hs3, hz3, hb3⟩ := int3
  obtain ⟨p1, c1, e1⟩ := lst_slice h1
  obtain ⟨p2, c2, e2⟩ := lst_slice h2
  subst e1
  subst e2
  refine CallR.of_body1 Tryz.func18 (by kernel_rfl) rfl fun Q hQ => ?_
  show CodeR _ _ ([.slice p1 l.length c1, .slice p2 l.length c2] ++ List.replicate 24 undef) h _
  simp only [List.replicate, List.cons_append, List.nil_append]
  refine CodeR.seq (CodeR.region ?_)
  simp [OpR, xwant, lightK, lop, evl, flat, flat0, putT, thenR, List.range, List.range.loop]
  refine CodeR.seq (CodeR.seq (CodeR.region ?_))
  simp [OpR, xwant, lightK, lop, evl, flat, flat0, putT, thenR, List.range, List.range.loop, isLen, Tryz.underlying26]
  simp only [nilEq_int]
  rw [lp_neq (k := .i64) (a := (l.length : Nat)) (b := (l.length : Nat)) rfl rfl]
  simp [OpR]
  refine CodeR.cond (b := false) (by simp [evl]) ?_
  simp only [Bool.false_eq_true, if_false]
  refine CodeR.skip ?_
  simp only [thenR]
  refine CodeR.seq (CodeR.seq (CodeR.region ?_))
  simp [OpR, xwant, lightK, lop, evl, flat, flat0, putT, thenR, List.range, List.range.loop]
  refine CodeR.block ?_
  refine CodeR.loop (fun j t g => ∃ (i : Nat) (x11 x12 x13 x14 x15 x16 x17 x18 x19 x20 x21 x22 x23 x24 x25 : Value), i ≤ l.length ∧ j = l.length - i ∧ t = [.slice p1 l.length c1, .slice p2 l.length c2, undef, undef, .bool false, .int .i64 i, .slice p1 l.length c1, .int .i64 l.length, .slice p2 l.length c2, .int .i64 l.length, .bool false, x11, x12, x13, x14, x15, x16, x17, x18, x19, x20, x21, x22, x23, x24, x25] ∧ g = h) (n := l.length) ⟨0, _, _, _, _, _, _, _, _, _, _, _, _, _, _, _, Nat.zero_le _, rfl, rfl, rfl⟩ ?_
  rintro j t g ⟨i, x11, x12, x13, x14, x15, x16, x17, x18, x19, x20, x21, x22, x23, x24, x25, hi, rfl, rfl, rfl⟩
  refine CodeR.seq (CodeR.seq (CodeR.region ?_))
  simp [OpR, xwant, lightK, lop, evl, flat, flat0, putT, thenR, List.range, List.range.loop, isLen, Tryz.underlying26]
  simp only [nilEq_int]
  rw [lp_lss (k := .i64) (a := (i : Nat)) (b := (l.length : Nat)) rfl rfl]
  simp [OpR]
  by_cases hlt : i < l.length
  · refine CodeR.cond (b := true) (by simp [evl, hlt]) ?_
    simp only [if_true]
    refine CodeR.skip ?_
    simp only [thenR]
    obtain ⟨x, hx⟩ : ∃ x, l[i]? = some x := ⟨_, List.getElem?_eq_getElem hlt⟩
    obtain ⟨b1, d1, q1, r1⟩ := h1.slot hx
    obtain ⟨b2, d2, q2, r2⟩ := h2.slot hx
    cases q1
    cases q2
    refine CodeR.seq (CodeR.block (CodeR.seq (CodeR.drawn fx_any (List.range 9) [] [(b1, i), (b2, i)] (by kernel_rfl) (ag_two r1 (by simp [sameC]) r2 (by simp [sameC])) ?_)))
    simp [OpR, xwant, lightK, lop, evl, flat, flat0, putT, thenR, List.range, List.range.loop, isLen, isMM, callAt, isApp, isFn, evls, Tryz.underlying26, Tryz.underlying3, hi3, hs3, aggD, hlt, r1, r2]
    simp only [nilEq_int]
    rw [lp_neq (k := .i64) (a := x) (b := x) rfl rfl]
    simp [OpR]
    refine CodeR.cond (b := false) (by simp [evl]) ?_
    simp only [Bool.false_eq_true, if_false]
    refine CodeR.skip ?_
    simp only [thenR, blockR]
    refine CodeR.region ?_
    simp [OpR, xwant, lightK, lop, evl, flat, flat0, putT, thenR, List.range, List.range.loop]
    rw [lp_add (k := .i64) (a := (i : Nat)) (b := 1) rfl rfl]
    simp only [nilEq_int]
    have hwr : IntKind.i64.wrap ((i : Int) + 1) = ((i + 1 : Nat) : Int) := by rw [IntWalk.i64_in _ (by omega)]; omega
    rw [hwr]
    exact ⟨l.length - (i + 1), by omega, i + 1, by omega, rfl, rfl⟩
  · refine CodeR.cond (b := false) (by simp [evl, hlt]) ?_
    simp only [Bool.false_eq_true, if_false]
    refine CodeR.exit ?_
    simp only [thenR, blockR, if_true]
    refine CodeR.seq (CodeR.region ?_)
    simp [OpR, xwant, lightK, lop, evl, flat, flat0, putT, thenR, List.range, List.range.loop]
    refine CodeR.ret ?_
    try simp only [thenR, blockR]
    exact hQ _ _ _ [.bool true] (.inr rfl) rfl (.inl ⟨_, rfl, rfl, rfl⟩)
theorem rints_same {h : HP} {v1 v2 : Value} {l : List Int} {o1 o2 : Option Nat} (h1 : Lst h 1 v1 (ints l) l.length o1) (h2 : Lst h 1 v2 (ints l) l.length o2) (hmax : l.length ≤ 5864062014805) : CallR Tryz.prog 24 [v1, v2] h (fun u h' => u = .bool true ∧ h' = h) := by
  refine CallR.of_body1 Tryz.func24 (by kernel_rfl) rfl fun Q hQ => ?_
  show CodeR _ _ ([v1, v2] ++ List.replicate 6 undef) h _
  simp only [List.replicate, List.cons_append, List.nil_append]
  refine CodeR.seq (CodeR.region ?_)
  simp [OpR, xwant, lightK, lop, evl, flat, flat0, putT, thenR, List.range, List.range.loop]
  refine CodeR.seq (CodeR.region ?_)
  simp [OpR, xwant, lightK, lop, evl, flat, flat0, putT, thenR, List.range, List.range.loop, isLen, isMM, callAt, isApp, isFn, evls]
  refine (ints_same h1 h2 hmax).mono ?_
  rintro u h' ⟨rfl, rfl⟩
  try simp [OpR, putT]
  refine CodeR.ret ?_
  try simp only [thenR, blockR]
  exact hQ _ _ _ [.bool true] (.inr rfl) rfl (.inl ⟨_, rfl, rfl, rfl⟩)
theorem num_r (n : Int) (h : HP) : CallR Tryz.prog 11 [.int .i64 n] h (fun u h' => u = .int .i64 n ∧ h' = h) := by
  refine CallR.of_body1 Tryz.func11 (by kernel_rfl) rfl fun Q hQ => ?_
  show CodeR _ _ ([.int .i64 n] ++ List.replicate 3 undef) h _
  simp only [List.replicate, List.cons_append, List.nil_append]
  refine CodeR.seq (CodeR.region ?_)
  simp [OpR, xwant, lightK, lop, evl, flat, flat0, putT, thenR, List.range, List.range.loop]
  refine CodeR.seq (CodeR.region ?_)
  simp [OpR, xwant, lightK, lop, evl, flat, flat0, putT, thenR, List.range, List.range.loop, isLen, isMM, callAt, isApp, isFn, evls]
  refine CodeR.ret ?_
  try simp only [thenR, blockR]
  exact hQ _ _ _ [.int .i64 n] (.inr rfl) rfl (.inl ⟨_, rfl, rfl, rfl⟩)
end Go.Proofs.YteeanpfhngoobaaGreat.Xk
set_option maxRecDepth 100000
namespace Go.Proofs.YteeanpfhngoobaaGreat.Xk
open Go.RowKit

def sg (f : Nat → Value) : List Value := f 0 :: f 1 :: f 2 :: f 3 :: f 4 :: f 5 :: f 6 :: f 7 :: f 8 :: f 9 :: f 10 :: f 11 :: f 12 :: f 13 :: f 14 :: f 15 :: f 16 :: f 17 :: f 18 :: f 19 :: f 20 :: f 21 :: f 22 :: f 23 :: f 24 :: f 25 :: f 26 :: f 27 :: f 28 :: f 29 :: f 30 :: f 31 :: f 32 :: f 33 :: f 34 :: f 35 :: f 36 :: f 37 :: f 38 :: f 39 :: f 40 :: f 41 :: f 42 :: f 43 :: f 44 :: f 45 :: f 46 :: f 47 :: f 48 :: f 49 :: f 50 :: f 51 :: f 52 :: f 53 :: f 54 :: f 55 :: f 56 :: f 57 :: f 58 :: f 59 :: f 60 :: f 61 :: f 62 :: f 63 :: f 64 :: f 65 :: f 66 :: f 67 :: f 68 :: f 69 :: f 70 :: f 71 :: f 72 :: f 73 :: []
theorem sg_map (f : Nat → Value) : sg f = (List.range 74).map f := by kernel_rfl
theorem sg_of (t : List Value) (h : t.length = 74) : t = sg (fun k => t.getD k undef) := by
  rw [sg_map]
  refine List.ext_getElem (by simp [h]) fun i h1 h2 => ?_
  simp [h1]
theorem bin_neqb (a b : Bool) : pur Tryz.prog (Go.binOp .neq 4 (.bool a) (.bool b)) = some (.bool (a != b)) := by cases a <;> cases b <;> kernel_rfl
section
variable {P : Program} {h : HP} {tm : List Value} {x y : Operand} {t yt type : TypeId} {a b : Bool} {dst : Option Tmp} {pos : String} {after : Array Edge} {guard : Option (Nat × Bool)}
theorem lp_neqb (hx : evl tm x = some (.bool a)) (hy : evl tm y = some (.bool b)) : lpure Tryz.prog tm ⟨dst, .binOp .neq 4 x y yt, type, pos, after, guard⟩ = some (.bool (a != b), []) := by
  have hr2 : pur Tryz.prog (execOp (pev tm) ⟨dst, .binOp .neq 4 x y yt, type, pos, after, guard⟩) = some (.value (.bool (a != b))) := by
    show pur Tryz.prog ((do eqGuard .neq 4 x y (pev tm x) (pev tm y); Go.binOp .neq 4 (pev tm x) (pev tm y) : Sem Value) >>= fun v => pure (Next.value v)) = _
    rw [show pev tm x = .bool a by simp [pev, hx], show pev tm y = .bool b by simp [pev, hy]]
    have : eqGuard .neq 4 x y (.bool a) (.bool b) = pure () := rfl
    rw [this]
    simp only [pur_bind, pur_pure, Option.bind_some, bin_neqb]
  exact lpure_is rfl (by simp [Op.operands, hx, hy, scal]) hr2 rfl
theorem nilEq_bool {op : BinOp} {v : Value} : nilEq P op t (.bool a) v = none := by cases v <;> rfl
end
theorem GrAt.node {h : HP} {ns rs : Value} {N : List Nd} {R : List Int} {i : Nat} {x : Nd} (hg : GrAt h ns rs N R) (hx : N[i]? = some x) :
    ∃ b c kv o, ns = .slice (some ⟨b, 0, none⟩) N.length c ∧ h.read b (i * 5) 5 = some [.int .i64 x.k, .string x.tg, .string x.tx, kv, .bool x.pl] ∧ Lst h 1 kv (ints x.kids) x.kids.length o := by
  obtain ⟨on, r, kv, oks, h1, h2, h3, h4, h5⟩ := hg
  have hi := (List.getElem?_eq_some_iff.1 hx).1
  obtain ⟨v, hv⟩ : ∃ v, kv[i]? = some v := ⟨_, List.getElem?_eq_getElem (by omega)⟩
  obtain ⟨o, ho⟩ : ∃ o, oks[i]? = some o := ⟨_, List.getElem?_eq_getElem (by omega)⟩
  obtain ⟨p1, p2⟩ := h1
  rcases p2 with ⟨-, h0, -⟩ | ⟨b, c, rr, rfl, -, hgb, ht, hnc, hcl⟩
  · omega
  refine ⟨b, c, v, o, rfl, ?_, h5 i x v o hx hv ho⟩
  unfold HP.read
  rw [hgb]
  dsimp only
  rw [if_pos ⟨rfl, by omega⟩]
  congr 1
  have hat := nodeCells_at N kv i x v hx hv
  have key : ∀ (j : Nat) u, [Value.int .i64 x.k, .string x.tg, .string x.tx, v, .bool x.pl][j]? = some u → rr[i * 5 + j]? = some u := fun j u hj => by
    have hj5 : j < 5 := by simpa using (List.getElem?_eq_some_iff.1 hj).1
    have := hat j u hj
    rw [← ht, List.getElem?_take_of_lt (by omega)] at this
    exact this
  refine List.ext_getElem? fun j => ?_
  by_cases hj : j < 5
  · rw [List.getElem?_take_of_lt hj, List.getElem?_drop, List.getElem?_eq_getElem (l := [Value.int .i64 x.k, .string x.tg, .string x.tx, v, .bool x.pl]) (by simpa using hj)]
    exact key j _ (List.getElem?_eq_getElem (by simpa using hj))
  · rw [List.getElem?_eq_none (by simp; omega), List.getElem?_eq_none (by simp; omega)]
theorem size4 : ∃ i, Tryz.prog.info? 4 = some i ∧ i.size = 1 := info_size (by kernel_rfl)
def SI (h h2 : HP) (v1 v2 : Value) (i : Nat) (t : List Value) (g : HP) : Prop :=
  Keep h2.nb h2 g ∧ ∃ f, t = sg f ∧ f 0 = v1 ∧ f 1 = v2 ∧ f 2 = .pointer (some ⟨h.nb, 0, none⟩) ∧ f 3 = .pointer (some ⟨h.nb + 1, 0, none⟩) ∧ f 4 = .bool false ∧ f 5 = .int .i64 i
def E8 (h : HP) (v1 v2 : Value) (i : Nat) (gy : HP) (e : Exit) (t : List Value) (g : HP) : Prop :=
  e = .normal ∧ g = gy ∧ ∃ f, t = sg f ∧ f 0 = v1 ∧ f 1 = v2 ∧ f 2 = .pointer (some ⟨h.nb, 0, none⟩) ∧ f 3 = .pointer (some ⟨h.nb + 1, 0, none⟩) ∧ f 4 = .bool false ∧ f 5 = .int .i64 i ∧ f 73 = .bool false
set_option maxHeartbeats 4000000 in
theorem graph_same {h : HP} {ns rs ns2 rs2 : Value} {N : List Nd} {R : List Int} (h1 : GrAt h ns rs N R) (h2 : GrAt h ns2 rs2 N R) (hN : N.length ≤ 5864062014805) (hR : R.length ≤ 5864062014805) (hk : ∀ y ∈ N, y.kids.length ≤ 5864062014805) :
    CallR Tryz.prog 12 [.agg #[ns, rs], .agg #[ns2, rs2]] h (fun u h' => u = .bool true ∧ Keep h.nb h h') := by
  obtain ⟨i3, hi3, hs3, hz3, hb3⟩ := int3
  obtain ⟨i9, hi9, hs9⟩ := size9
  obtain ⟨i28, hi28, hs28⟩ := size28
  obtain ⟨i25, hi25, hs25⟩ := size25
  obtain ⟨i26, hi26, hs26⟩ := size26
  obtain ⟨i51, hi51, hs51, hz51, hb51⟩ := node51
  obtain ⟨i4, hi4, hs4⟩ := size4
  obtain ⟨pn, cn, rfl⟩ : ∃ p c, ns = .slice p N.length c := by obtain ⟨_, _, _, _, q, _⟩ := h1; exact lst_slice q
  obtain ⟨pr, cr, rfl⟩ : ∃ p c, rs = .slice p R.length c := by obtain ⟨_, _, _, _, _, q, _⟩ := h1; exact lst_slice q
  obtain ⟨pn2, cn2, rfl⟩ : ∃ p c, ns2 = .slice p N.length c := by obtain ⟨_, _, _, _, q, _⟩ := h2; exact lst_slice q
  obtain ⟨pr2, cr2, rfl⟩ : ∃ p c, rs2 = .slice p R.length c := by obtain ⟨_, _, _, _, _, q, _⟩ := h2; exact lst_slice q
  refine CallR.of_body1 Tryz.func12 (by kernel_rfl) rfl fun Q hQ => ?_
  show CodeR _ _ ([.agg #[.slice pn N.length cn, .slice pr R.length cr], .agg #[.slice pn2 N.length cn2, .slice pr2 R.length cr2]] ++ List.replicate 72 undef) h _
  simp only [List.replicate, List.cons_append, List.nil_append]
  refine CodeR.seq (CodeR.region ?_)
  simp [OpR, xwant, lightK, lop, evl, flat, flat0, putT, thenR, List.range, List.range.loop, hop, callAt, cellsOf, isCell]
  have hk1 : Keep h.nb h ((h.push ⟨[.slice pn N.length cn, .slice pr R.length cr], 1, true⟩).push ⟨[.slice pn2 N.length cn2, .slice pr2 R.length cr2], 1, true⟩) := ⟨by show h.nb ≤ h.nb + 1 + 1; omega, fun k hk => by rw [get_push_old _ (by show k ≠ h.nb + 1; omega), get_push_old _ (by omega)]⟩
  have hgA : ((h.push ⟨[.slice pn N.length cn, .slice pr R.length cr], 1, true⟩).push ⟨[.slice pn2 N.length cn2, .slice pr2 R.length cr2], 1, true⟩).get h.nb = some ⟨[.slice pn N.length cn, .slice pr R.length cr], 1, true⟩ := by rw [get_push_old _ (by show h.nb ≠ h.nb + 1; omega)]; exact get_push_new _
  have hgB : ((h.push ⟨[.slice pn N.length cn, .slice pr R.length cr], 1, true⟩).push ⟨[.slice pn2 N.length cn2, .slice pr2 R.length cr2], 1, true⟩).get (h.nb + 1) = some ⟨[.slice pn2 N.length cn2, .slice pr2 R.length cr2], 1, true⟩ := get_push_new _
  have hnb2 : ((h.push ⟨[.slice pn N.length cn, .slice pr R.length cr], 1, true⟩).push ⟨[.slice pn2 N.length cn2, .slice pr2 R.length cr2], 1, true⟩).nb = h.nb + 2 := rfl
  have enb : (h.push ⟨[.slice pn N.length cn, .slice pr R.length cr], 1, true⟩).nb = h.nb + 1 := rfl
  rw [enb]
  generalize (h.push ⟨[.slice pn N.length cn, .slice pr R.length cr], 1, true⟩).push ⟨[.slice pn2 N.length cn2, .slice pr2 R.length cr2], 1, true⟩ = h3 at hk1 hgA hgB hnb2 ⊢
  have g1 := h1.keep hk1
  have g2 := h2.keep hk1
  have rA0 := read1 hgA (o := 0) (v := .slice pn N.length cn) rfl
  have rA1 := read1 hgA (o := 1) (v := .slice pr R.length cr) rfl
  have rB0 := read1 hgB (o := 0) (v := .slice pn2 N.length cn2) rfl
  have rB1 := read1 hgB (o := 1) (v := .slice pr2 R.length cr2) rfl
  refine CodeR.seq (CodeR.seq (CodeR.region ?_))
  simp (maxSteps := 10000000) [OpR, xwant, bOf, lightK, lop, evl, flat, flat0, putT, thenR, List.range, List.range.loop, isLen, isMM, callAt, isApp, isFn, evls, Tryz.underlying28, Tryz.underlying25, Tryz.underlying26, hi28, hs28, hi25, hs25, hi26, hs26, aggD, rA0, rA1, rB0, rB1]
  simp only [nilEq_int]
  rw [lp_neq (k := .i64) (a := (N.length : Nat)) (b := (N.length : Nat)) rfl rfl]
  simp (maxSteps := 10000000) [OpR, xwant, bOf, lightK, lop, evl, flat, flat0, putT, thenR, isLen, isMM, callAt, isApp, isFn, evls, Tryz.underlying28, Tryz.underlying25, Tryz.underlying26, hi28, hs28, hi25, hs25, hi26, hs26, aggD, rA0, rA1, rB0, rB1]
  obtain ⟨_, o1, _, _, _, l1, _⟩ := g1
  obtain ⟨_, o2, _, _, _, l2, _⟩ := g2
  refine (rints_same l1 l2 hR).mono ?_
  rintro u h' ⟨rfl, rfl⟩
  clear l1 l2
  have g1 := h1.keep hk1
  have g2 := h2.keep hk1
  try simp [OpR, putT]
  rw [lp_not (z := true) rfl]
  simp (maxSteps := 10000000) [OpR, xwant, bOf, lightK, lop, evl, flat, flat0, putT, thenR]
  refine CodeR.cond (b := false) (by simp [evl]) ?_
  simp only [Bool.false_eq_true, if_false]
  refine CodeR.skip ?_
  simp only [thenR]
  refine CodeR.seq (CodeR.seq (CodeR.region ?_))
  simp [OpR, xwant, lightK, lop, evl, flat, flat0, putT, thenR, List.range, List.range.loop]
  refine CodeR.block ?_
  refine CodeR.loop (fun j t g => ∃ (i : Nat), i ≤ N.length ∧ j = N.length - i ∧ SI h h' (.agg #[.slice pn N.length cn, .slice pr R.length cr]) (.agg #[.slice pn2 N.length cn2, .slice pr2 R.length cr2]) i t g) (n := N.length) ⟨0, Nat.zero_le _, rfl, ⟨Nat.le_refl _, fun _ _ => rfl⟩, fun k => List.getD _ k undef, sg_of _ rfl, rfl, rfl, rfl, rfl, rfl, rfl⟩ ?_
  rintro j t g ⟨i, hi, rfl, hkg, f, rfl, f0, f1, f2, f3, f4, f5⟩
  unfold sg
  rw [f0, f1, f2, f3, f4, f5]
  have qA := (hkg.2 h.nb (by omega)).trans hgA
  have qB := (hkg.2 (h.nb + 1) (by omega)).trans hgB
  have rA0 := read1 qA (o := 0) (v := .slice pn N.length cn) rfl
  refine CodeR.seq (CodeR.seq (CodeR.region ?_))
  simp [OpR, xwant, lightK, lop, evl, flat, flat0, putT, thenR, List.range, List.range.loop, isLen, Tryz.underlying28, Tryz.underlying25, hi28, hs28, hi25, hs25, aggD, rA0]
  simp only [nilEq_int]
  rw [lp_lss (k := .i64) (a := (i : Nat)) (b := (N.length : Nat)) rfl rfl]
  simp [OpR]
  by_cases hlt : i < N.length
  · refine CodeR.cond (b := true) (by simp [evl, hlt]) ?_
    simp only [if_true]
    refine CodeR.skip ?_
    simp only [thenR]
    obtain ⟨x, hx⟩ : ∃ x, N[i]? = some x := ⟨_, List.getElem?_eq_getElem hlt⟩
    have hxk := hk x (List.mem_of_getElem? hx)
    obtain ⟨b1, d1, k1, o1, e1, q1, l1⟩ := (g1.keep hkg).node hx
    cases e1
    obtain ⟨p1, s1, rfl⟩ := lst_slice l1
    generalize hC1 : [Value.int .i64 x.k, .string x.tg, .string x.tx, .slice p1 x.kids.length s1, .bool x.pl] = C1 at q1
    have hc1 : C1.all isCell = true := by rw [← hC1]; rfl
    have hl1 : C1.length = 5 := by rw [← hC1]; rfl
    have hco1 : cellsOf (.agg C1.toArray) = some C1 := by rw [← hC1]; rfl
    refine CodeR.seq (CodeR.block (CodeR.seq (CodeR.region ?_)))
    simp [OpR, xwant, lightK, lop, evl, flat, flat0, putT, thenR, List.range, List.range.loop, Tryz.underlying28, Tryz.underlying25, Tryz.underlying51, hi28, hs28, hi25, hs25, hi51, hs51, aggD, hlt, rA0, q1, isLen, isMM, callAt, isApp, isFn, evls]
    rw [alloc51]
    dsimp only
    have hz1 : (g.push ⟨[.int .i64 0, .string ⟨#[]⟩, .string ⟨#[]⟩, .slice none 0 0, .bool false], 1, true⟩).get g.nb = some ⟨[.int .i64 0, .string ⟨#[]⟩, .string ⟨#[]⟩, .slice none 0 0, .bool false], 1, true⟩ := get_push_new _
    have hw1 : (g.push ⟨[.int .i64 0, .string ⟨#[]⟩, .string ⟨#[]⟩, .slice none 0 0, .bool false], 1, true⟩).write g.nb 0 C1 = some ((g.push ⟨[.int .i64 0, .string ⟨#[]⟩, .string ⟨#[]⟩, .slice none 0 0, .bool false], 1, true⟩).put g.nb ⟨C1, 1, true⟩) := by
      unfold HP.write
      rw [hz1]
      dsimp only
      rw [if_pos ⟨rfl, by decide, by rw [hl1]; decide⟩]
      congr 2
      rw [← hC1]
      rfl
    rw [hop_store (b := g.nb) (off := 0) (v := .agg C1.toArray) (cs := C1) hi51 rfl rfl hco1 (by rw [hs51, hl1]) hc1 hw1]
    dsimp only
    have hkz1 : Keep g.nb g ((g.push ⟨[.int .i64 0, .string ⟨#[]⟩, .string ⟨#[]⟩, .slice none 0 0, .bool false], 1, true⟩).put g.nb ⟨C1, 1, true⟩) := ⟨by show g.nb ≤ g.nb + 1; omega, fun k hk => by rw [get_put_ne hz1 _ (by omega), get_push_old _ (by omega)]⟩
    have hgz1 := get_put_same hz1 ⟨C1, 1, true⟩
    have hnz1 : g.nb < ((g.push ⟨[.int .i64 0, .string ⟨#[]⟩, .string ⟨#[]⟩, .slice none 0 0, .bool false], 1, true⟩).put g.nb ⟨C1, 1, true⟩).nb := by show g.nb < g.nb + 1; omega
    generalize (g.push ⟨[.int .i64 0, .string ⟨#[]⟩, .string ⟨#[]⟩, .slice none 0 0, .bool false], 1, true⟩).put g.nb ⟨C1, 1, true⟩ = gx at hkz1 hgz1 hnz1 ⊢
    have qB2 := (hkz1.2 (h.nb + 1) (by have := hkg.1; omega)).trans qB
    have rB0 := read1 qB2 (o := 0) (v := .slice pn2 N.length cn2) rfl
    have hkg2 := hkg.trans (hkz1.low (n := h'.nb) hkg.1)
    obtain ⟨b2, d2, k2, o2, e2, q2, l2⟩ := (g2.keep hkg2).node hx
    cases e2
    obtain ⟨p2, s2, rfl⟩ := lst_slice l2
    generalize hC2 : [Value.int .i64 x.k, .string x.tg, .string x.tx, .slice p2 x.kids.length s2, .bool x.pl] = C2 at q2
    have hc2 : C2.all isCell = true := by rw [← hC2]; rfl
    have hl2 : C2.length = 5 := by rw [← hC2]; rfl
    have hco2 : cellsOf (.agg C2.toArray) = some C2 := by rw [← hC2]; rfl
    refine CodeR.seq (CodeR.region ?_)
    simp [OpR, xwant, lightK, lop, evl, flat, flat0, putT, thenR, List.range, List.range.loop, Tryz.underlying28, Tryz.underlying25, Tryz.underlying51, hi28, hs28, hi25, hs25, hi51, hs51, aggD, hlt, rB0, q2, isLen, isMM, callAt, isApp, isFn, evls]
    rw [alloc51]
    dsimp only
    have hz2 : (gx.push ⟨[.int .i64 0, .string ⟨#[]⟩, .string ⟨#[]⟩, .slice none 0 0, .bool false], 1, true⟩).get gx.nb = some ⟨[.int .i64 0, .string ⟨#[]⟩, .string ⟨#[]⟩, .slice none 0 0, .bool false], 1, true⟩ := get_push_new _
    have hw2 : (gx.push ⟨[.int .i64 0, .string ⟨#[]⟩, .string ⟨#[]⟩, .slice none 0 0, .bool false], 1, true⟩).write gx.nb 0 C2 = some ((gx.push ⟨[.int .i64 0, .string ⟨#[]⟩, .string ⟨#[]⟩, .slice none 0 0, .bool false], 1, true⟩).put gx.nb ⟨C2, 1, true⟩) := by
      unfold HP.write
      rw [hz2]
      dsimp only
      rw [if_pos ⟨rfl, by decide, by rw [hl2]; decide⟩]
      congr 2
      rw [← hC2]
      rfl
    rw [hop_store (b := gx.nb) (off := 0) (v := .agg C2.toArray) (cs := C2) hi51 rfl rfl hco2 (by rw [hs51, hl2]) hc2 hw2]
    dsimp only
    have hkz2 : Keep gx.nb gx ((gx.push ⟨[.int .i64 0, .string ⟨#[]⟩, .string ⟨#[]⟩, .slice none 0 0, .bool false], 1, true⟩).put gx.nb ⟨C2, 1, true⟩) := ⟨by show gx.nb ≤ gx.nb + 1; omega, fun k hk => by rw [get_put_ne hz2 _ (by omega), get_push_old _ (by omega)]⟩
    have hgz2 := get_put_same hz2 ⟨C2, 1, true⟩
    have hnz2 : gx.nb < ((gx.push ⟨[.int .i64 0, .string ⟨#[]⟩, .string ⟨#[]⟩, .slice none 0 0, .bool false], 1, true⟩).put gx.nb ⟨C2, 1, true⟩).nb := by show gx.nb < gx.nb + 1; omega
    generalize (gx.push ⟨[.int .i64 0, .string ⟨#[]⟩, .string ⟨#[]⟩, .slice none 0 0, .bool false], 1, true⟩).put gx.nb ⟨C2, 1, true⟩ = gy at hkz2 hgz2 hnz2 ⊢
    have hX1 := (hkz2.2 g.nb hnz1).trans hgz1
    subst hC1
    subst hC2
    have u0 := read1 hX1 (o := 0) (v := .int .i64 x.k) rfl
    have u1 := read1 hX1 (o := 1) (v := .string x.tg) rfl
    have u2 := read1 hX1 (o := 2) (v := .string x.tx) rfl
    have u3 := read1 hX1 (o := 3) (v := .slice p1 x.kids.length s1) rfl
    have u4 := read1 hX1 (o := 4) (v := .bool x.pl) rfl
    have w0 := read1 hgz2 (o := 0) (v := .int .i64 x.k) rfl
    have w1 := read1 hgz2 (o := 1) (v := .string x.tg) rfl
    have w2 := read1 hgz2 (o := 2) (v := .string x.tx) rfl
    have w3 := read1 hgz2 (o := 3) (v := .slice p2 x.kids.length s2) rfl
    have w4 := read1 hgz2 (o := 4) (v := .bool x.pl) rfl
    have hkg3 := hkg2.trans (hkz2.low (n := h'.nb) hkg2.1)
    have L1 := l1.keep (hkz1.trans (hkz2.low (n := g.nb) hkz1.1))
    have L2 := l2.keep hkz2
    have hn1 : ∀ (tm : List Value) (dst : Option Tmp) (type : TypeId) (pos : String) (after : Array Edge) (guard : Option (Nat × Bool)), evl tm (.tmp 41) = some (.int .i64 x.k) → evl tm (.tmp 43) = some (.int .i64 x.k) → lpure Tryz.prog tm ⟨dst, .binOp .neq 3 (.tmp 41) (.tmp 43) 3, type, pos, after, guard⟩ = some (.bool false, []) := fun tm dst type pos after guard a b => by rw [lp_neq a b]; simp
    have hn2 : ∀ (tm : List Value) (dst : Option Tmp) (type : TypeId) (pos : String) (after : Array Edge) (guard : Option (Nat × Bool)), evl tm (.tmp 47) = some (.string x.tg) → evl tm (.tmp 49) = some (.string x.tg) → lpure Tryz.prog tm ⟨dst, .binOp .neq 9 (.tmp 47) (.tmp 49) 9, type, pos, after, guard⟩ = some (.bool false, []) := fun tm dst type pos after guard a b => by rw [lp_neqs a b]; simp
    have hn3 : ∀ (tm : List Value) (dst : Option Tmp) (type : TypeId) (pos : String) (after : Array Edge) (guard : Option (Nat × Bool)), evl tm (.tmp 54) = some (.string x.tx) → evl tm (.tmp 56) = some (.string x.tx) → lpure Tryz.prog tm ⟨dst, .binOp .neq 9 (.tmp 54) (.tmp 56) 9, type, pos, after, guard⟩ = some (.bool false, []) := fun tm dst type pos after guard a b => by rw [lp_neqs a b]; simp
    have hn4 : ∀ (tm : List Value) (dst : Option Tmp) (type : TypeId) (pos : String) (after : Array Edge) (guard : Option (Nat × Bool)), evl tm (.tmp 61) = some (.bool x.pl) → evl tm (.tmp 63) = some (.bool x.pl) → lpure Tryz.prog tm ⟨dst, .binOp .neq 4 (.tmp 61) (.tmp 63) 4, type, pos, after, guard⟩ = some (.bool false, []) := fun tm dst type pos after guard a b => by rw [lp_neqb a b]; simp
    refine CodeR.seq (CodeR.mono (Q := E8 h (.agg #[.slice (some ⟨b1, 0, none⟩) N.length cn, .slice pr R.length cr]) (.agg #[.slice (some ⟨b2, 0, none⟩) N.length cn2, .slice pr2 R.length cr2]) i gy) (CodeR.region ?_) ?_)
    · simp (maxSteps := 10000000) [OpR, xwant, bOf, lightK, lop, evl, flat, flat0, putT, thenR, List.range, List.range.loop, isLen, isMM, callAt, isApp, isFn, evls, Tryz.underlying51, Tryz.underlying3, Tryz.underlying9, Tryz.underlying4, Tryz.underlying26, hi51, hs51, hi3, hs3, hi9, hs9, hi4, hs4, hi26, hs26, aggD, u0, u1, u2, u3, u4, w0, w1, w2, w3, w4, nilEq_int, nilEq_str, nilEq_bool, hn1, hn2, hn3, hn4]
      refine (rints_same L1 L2 hxk).mono ?_
      rintro u h9 ⟨rfl, rfl⟩
      try simp [OpR, putT]
      rw [lp_not (z := true) rfl]
      simp [OpR, xwant, bOf, lightK, lop, evl, flat, flat0, putT, thenR]
      exact ⟨rfl, rfl, fun k => List.getD _ k undef, sg_of _ rfl, rfl, rfl, rfl, rfl, rfl, rfl, rfl⟩
    rintro ex t9 g9 ⟨rfl, rfl, f9, rfl, a0, a1, a2, a3, a4, a5, a73⟩
    simp only [thenR]
    unfold sg
    rw [a0, a1, a2, a3, a4, a5, a73]
    refine CodeR.cond (b := false) (by simp [evl]) ?_
    simp only [Bool.false_eq_true, if_false]
    refine CodeR.skip ?_
    simp only [thenR, blockR]
    refine CodeR.region ?_
    simp [OpR, xwant, lightK, lop, evl, flat, flat0, putT, thenR, List.range, List.range.loop]
    rw [lp_add (k := .i64) (a := (i : Nat)) (b := 1) rfl rfl]
    simp only [nilEq_int]
    have hwr : IntKind.i64.wrap ((i : Int) + 1) = ((i + 1 : Nat) : Int) := by rw [IntWalk.i64_in _ (by omega)]; omega
    rw [hwr]
    exact ⟨N.length - (i + 1), by omega, i + 1, by omega, rfl, hkg3, fun k => List.getD _ k undef, sg_of _ rfl, rfl, rfl, rfl, rfl, rfl, rfl⟩
  · refine CodeR.cond (b := false) (by simp [evl, hlt]) ?_
    simp only [Bool.false_eq_true, if_false]
    refine CodeR.exit ?_
    simp only [thenR, blockR, if_true]
    refine CodeR.seq (CodeR.region ?_)
    simp [OpR, xwant, lightK, lop, evl, flat, flat0, putT, thenR, List.range, List.range.loop]
    refine CodeR.ret ?_
    try simp only [thenR, blockR]
    exact hQ _ _ _ [.bool true] (.inr rfl) rfl (.inl ⟨_, rfl, rfl, hk1.trans (hkg.low (n := h.nb) (by omega))⟩)
end Go.Proofs.YteeanpfhngoobaaGreat.Xk
