/- What the law of anchors makes: rows of events that grow, and operations on numbers. -/
import Derived.Test.YteeanpfhngoobaaGreatZXuo
import Derived.Test.YteeanpfhngoobaaGreatZXun
set_option linter.all false
set_option maxRecDepth 100000
namespace Go.Proofs.YteeanpfhngoobaaGreat.Xk
open Go.RowKit

theorem i64_and1023 (n : Int) : bits .and .i64 n 1023 = n % 1024 := by
  have h3 : (BitVec.ofInt 64 1023).toNat = 2 ^ 10 - 1 := by decide
  have key : (BitVec.ofInt 64 n &&& BitVec.ofInt 64 1023).toNat = (n % ((2 ^ 64 : Nat) : Int)).toNat % 2 ^ 10 := by
    rw [BitVec.toNat_and, BitVec.toNat_ofInt, h3, Nat.and_two_pow_sub_one_eq_mod]
  show IntKind.i64.wrap ((BitVec.ofInt 64 n &&& BitVec.ofInt 64 1023).toNat : Nat) = n % 1024
  rw [key, IntKind.wrap_i64]
  omega
section
variable {P : Program} {tm : List Value} {x y : Operand} {t yt type : TypeId} {a : Int} {dst : Option Tmp} {pos : String} {after : Array Edge} {guard : Option (Nat × Bool)}
theorem lp_and1023 (hx : evl tm x = some (.int .i64 a)) (hy : evl tm y = some (.int .i64 1023)) : lpure P tm ⟨dst, .binOp .and t x y yt, type, pos, after, guard⟩ = some (.int .i64 (a % 1024), []) :=
  lp_of (h := ⟨0, []⟩) hx hy (lop_bin hx hy (by rw [← i64_and1023]; rfl) rfl)
theorem lp_rem6 (hx : evl tm x = some (.int .i64 a)) (hy : evl tm y = some (.int .i64 6)) : lpure P tm ⟨dst, .binOp .rem t x y yt, type, pos, after, guard⟩ = some (.int .i64 (a.tmod 6), []) :=
  lp_of (h := ⟨0, []⟩) hx hy (lop_bin hx hy (by simp [Go.binOp, Op.intDiv, pur_pure]) rfl)
end
/-- What is appended, more than one. -/
theorem app_lstk {P : Program} {h : HP} {e : TypeId} {inf : TypeInfo} {z v x : Value} {cs new : List Value} {n k : Nat} {own : Option Nat} (hi : P.info? e = some inf) (hz : inf.zero = some z) (hs : z.cells.size = inf.size ∧ 0 < inf.size ∧ inf.bytes ≤ 1024)
    (hl : Lst h inf.size v cs n own) (hk : 0 < k) (hx : appended h inf.size x = some (k, new)) (hnew : new.length = k * inf.size) (hmax : n + k ≤ 5864062014805) (hmb : (n + k) * inf.bytes ≤ 140737488355328) :
    ∃ v' h' own', app P h e v x = some (v', h') ∧ Lst h' inf.size v' (cs ++ new) (n + k) own' ∧ (own' = own ∨ own' = some h.nb) ∧ Else h h' own.toList := by
  obtain ⟨hlen, hl⟩ := hl
  have hlen2 : (cs ++ new).length = (n + k) * inf.size := by rw [List.length_append, hlen, hnew, Nat.add_mul]
  unfold app
  rw [hi]
  dsimp only
  rw [hz]
  dsimp only
  rw [if_neg (fun hn => hn hs), hx]
  dsimp only
  rcases hl with ⟨rfl, rfl, rfl⟩ | ⟨b, c, r, rfl, rfl, hg, ht, hnc, hcl⟩
  · try dsimp only
    obtain rfl : cs = [] := List.eq_nil_of_length_eq_zero (by simpa using hlen)
    rw [Nat.zero_add] at hmb hlen2 ⊢
    rw [if_neg (by omega), if_pos ⟨by omega, hmb⟩]
    refine ⟨_, _, some h.nb, rfl, ⟨hlen2, .inr ⟨h.nb, k, new, rfl, rfl, get_push_new _, ?_, Nat.le_refl _, by omega⟩⟩, .inr rfl, by show h.nb ≤ h.nb + 1; omega, fun k hk _ => get_push_old _ (by omega)⟩
    rw [List.nil_append]
    exact List.take_of_length_le (by omega)
  · try dsimp only
    rw [hg]
    dsimp only
    rw [if_neg (fun hn => hn ⟨rfl, rfl, by omega, hmb⟩)]
    have hm1 : n * inf.size ≤ c * inf.size := Nat.mul_le_mul_right _ hnc
    have hks : 0 < k * inf.size := Nat.mul_pos hk hs.2.1
    by_cases hf : n + k ≤ c
    · have hm2 : (n + k) * inf.size ≤ c * inf.size := Nat.mul_le_mul_right _ hf
      rw [Nat.add_mul] at hm2
      have hwr : h.write b (0 + n * inf.size) new = some (h.put b ⟨setAt r (n * inf.size) new, inf.size, true⟩) := by
        unfold HP.write
        rw [hg]
        dsimp only
        rw [if_pos ⟨rfl, by have := hs.2.1; omega, by omega⟩, Nat.zero_add]
      rw [if_pos hf, hwr]
      refine ⟨_, _, some b, rfl, ⟨hlen2, .inr ⟨b, c, _, rfl, rfl, get_put_same hg _, ?_, hf, by rw [setAt_len]; exact hcl⟩⟩, .inl rfl, Nat.le_refl _, fun k hk hkl => get_put_ne hg _ (by simpa using hkl)⟩
      rw [show (n + k) * inf.size = n * inf.size + new.length by rw [hnew, Nat.add_mul], setAt_take (by omega), ht]
    · have hrd : h.read b 0 (n * inf.size) = some cs := by
        unfold HP.read
        rw [hg]
        dsimp only
        rw [if_pos ⟨rfl, by omega⟩, List.drop_zero, ht]
      rw [if_neg hf, hrd]
      dsimp only
      have hpn : (h.put b ⟨r, inf.size, false⟩).nb = h.nb := rfl
      refine ⟨_, _, some h.nb, rfl, ⟨hlen2, .inr ⟨h.nb, n + k, cs ++ new, rfl, rfl, get_push_new (h := h.put b ⟨r, inf.size, false⟩) _, List.take_of_length_le (by omega), Nat.le_refl _, by omega⟩⟩, .inr rfl, by show h.nb ≤ h.nb + 1; omega, fun k hk hkl => ?_⟩
      rw [get_push_old _ (by rw [hpn]; omega), get_put_ne hg _ (by simpa using hkl)]
def zeroEv (l : List Value) : Bool := match l with
  | [.int .i64 0, .string a, .string b, .string c, .int .i64 0, .bool false] => a.data.toList.isEmpty && b.data.toList.isEmpty && c.data.toList.isEmpty
  | _ => false
theorem zeroEv_is {cs : Array Value} (h : zeroEv cs.toList = true) : cs = #[.int .i64 0, .string ⟨#[]⟩, .string ⟨#[]⟩, .string ⟨#[]⟩, .int .i64 0, .bool false] := by
  apply Array.toList_inj.1
  generalize cs.toList = l at h
  unfold zeroEv at h
  split at h
  · rename_i a b c
    simp only [Bool.and_eq_true, List.isEmpty_iff] at h
    have ea : a = ⟨#[]⟩ := ByteArray.ext (Array.toList_inj.1 (by simpa using h.1.1))
    have eb : b = ⟨#[]⟩ := ByteArray.ext (Array.toList_inj.1 (by simpa using h.1.2))
    have ec : c = ⟨#[]⟩ := ByteArray.ext (Array.toList_inj.1 (by simpa using h.2))
    subst ea
    subst eb
    subst ec
    rfl
  · cases h
theorem ev46 : ∃ i, Tryz.prog.info? 46 = some i ∧ i.size = 6 ∧ i.zero = some (.agg #[.int .i64 0, .string ⟨#[]⟩, .string ⟨#[]⟩, .string ⟨#[]⟩, .int .i64 0, .bool false]) ∧ i.bytes ≤ 72 := by
  have h : (match Tryz.prog.info? 46 with | some i => i.size == 6 && decide (i.bytes ≤ 72) && (match i.zero with | some (.agg cs) => zeroEv cs.toList | _ => false) | none => false) = true := by kernel_rfl
  split at h
  · rename_i i hi
    simp only [Bool.and_eq_true, beq_iff_eq, decide_eq_true_eq] at h
    obtain ⟨⟨h1, h2⟩, h3⟩ := h
    split at h3
    · rename_i cs hz
      rw [zeroEv_is h3] at hz
      exact ⟨i, hi, h1, hz, h2⟩
    · cases h3
  · cases h
section
variable {tm : List Value} {h : HP} {x y z : Operand} {e1 e2 e3 : Ev} {dst : Option Tmp} {type : TypeId} {pos : String} {after : Array Edge} {guard : Option (Nat × Bool)}
theorem buildE1 (hx : evl tm x = some (.agg (evC e1).toArray)) : hop Tryz.prog noneK tm h ⟨dst, .buildSlice 22 1 #[(0, x)], type, pos, after, guard⟩ = some (.slice (some ⟨h.nb, 0, none⟩) 1 1, h.push ⟨Go.Proofs.YteeanpfhngoobaaGreat.flat [e1], 6, true⟩) := by
  obtain ⟨i, hi, hs, hz, hb⟩ := ev46
  unfold hop
  simp [Tryz.underlying22, evps, hx, evC, cellsOf, isCell, hi, hz, hs, Value.cells, flat0, Instr.fill, Array.toList_range, List.range, List.range.loop, Go.Proofs.YteeanpfhngoobaaGreat.flat, Ev.c]
theorem buildE2 (hx : evl tm x = some (.agg (evC e1).toArray)) (hy : evl tm y = some (.agg (evC e2).toArray)) : hop Tryz.prog noneK tm h ⟨dst, .buildSlice 22 2 #[(0, x), (1, y)], type, pos, after, guard⟩ = some (.slice (some ⟨h.nb, 0, none⟩) 2 2, h.push ⟨Go.Proofs.YteeanpfhngoobaaGreat.flat [e1, e2], 6, true⟩) := by
  obtain ⟨i, hi, hs, hz, hb⟩ := ev46
  unfold hop
  simp [Tryz.underlying22, evps, hx, hy, evC, cellsOf, isCell, hi, hz, hs, Value.cells, flat0, Instr.fill, Array.toList_range, List.range, List.range.loop, Go.Proofs.YteeanpfhngoobaaGreat.flat, Ev.c]
theorem buildE3 (hx : evl tm x = some (.agg (evC e1).toArray)) (hy : evl tm y = some (.agg (evC e2).toArray)) (hz' : evl tm z = some (.agg (evC e3).toArray)) : hop Tryz.prog noneK tm h ⟨dst, .buildSlice 22 3 #[(0, x), (1, y), (2, z)], type, pos, after, guard⟩ = some (.slice (some ⟨h.nb, 0, none⟩) 3 3, h.push ⟨Go.Proofs.YteeanpfhngoobaaGreat.flat [e1, e2, e3], 6, true⟩) := by
  obtain ⟨i, hi, hs, hz, hb⟩ := ev46
  unfold hop
  simp [Tryz.underlying22, evps, hx, hy, hz', evC, cellsOf, isCell, hi, hz, hs, Value.cells, flat0, Instr.fill, Array.toList_range, List.range, List.range.loop, Go.Proofs.YteeanpfhngoobaaGreat.flat, Ev.c]
theorem buildN : hop Tryz.prog noneK tm h ⟨dst, .buildSlice 44 3 #[(0, .const (.string ⟨#[97]⟩)), (1, .const (.string ⟨#[98]⟩)), (2, .const (.string ⟨#[99]⟩))], type, pos, after, guard⟩ = some (.slice (some ⟨h.nb, 0, none⟩) 3 3, h.push ⟨[.string nmA, .string nmB, .string nmC], 1, true⟩) := by kernel_rfl
theorem alloc47 : hop Tryz.prog noneK tm h ⟨dst, .alloc 47, type, pos, after, guard⟩ = some (.pointer (some ⟨h.nb, 0, none⟩), h.push ⟨ints [0, 0, 0], 1, true⟩) := by kernel_rfl
end
theorem bldK (x : Int) : pur Tryz.prog (Instr.build 46 #[(0, .int .i64 x)]) = some (.agg (evC (evK x)).toArray) := by kernel_rfl
theorem bldS (s a : ByteArray) : pur Tryz.prog (Instr.build 46 #[(0, .int .i64 7), (4, .int .i64 1), (1, .string s), (3, .string a)]) = some (.agg (evC ⟨7, s, e0, a, 1, false⟩).toArray) := by kernel_rfl
theorem bldA (a : ByteArray) : pur Tryz.prog (Instr.build 46 #[(0, .int .i64 8), (3, .string a)]) = some (.agg (evC ⟨8, e0, e0, a, 0, false⟩).toArray) := by kernel_rfl
theorem zero46 : zeroC Tryz.prog 46 = true := by kernel_rfl
/-- Events behind a row of the call's own. -/
theorem app_evs {h : HP} {v : Value} {L : List Ev} {own : Option Nat} (X : List Ev) (hX : 0 < X.length) (hl : Lst h 6 v (Go.Proofs.YteeanpfhngoobaaGreat.flat L) L.length own) (hmax : L.length + X.length ≤ 1048576) :
    ∃ v' h2 own', app Tryz.prog (h.push ⟨Go.Proofs.YteeanpfhngoobaaGreat.flat X, 6, true⟩) 46 v (.slice (some ⟨h.nb, 0, none⟩) X.length X.length) = some (v', h2) ∧ Lst h2 6 v' (Go.Proofs.YteeanpfhngoobaaGreat.flat (L ++ X)) (L ++ X).length own' ∧ (own' = own ∨ ∃ b, own' = some b ∧ h.nb ≤ b) ∧ Else h h2 own.toList := by
  obtain ⟨i, hi, hs, hz, hb⟩ := ev46
  have hfl : ∀ A B : List Ev, Go.Proofs.YteeanpfhngoobaaGreat.flat (A ++ B) = Go.Proofs.YteeanpfhngoobaaGreat.flat A ++ Go.Proofs.YteeanpfhngoobaaGreat.flat B := fun A B => by
    induction A with
    | nil => rfl
    | cons x A ih => show x.c ++ Go.Proofs.YteeanpfhngoobaaGreat.flat (A ++ B) = (x.c ++ Go.Proofs.YteeanpfhngoobaaGreat.flat A) ++ _; rw [ih, List.append_assoc]
  have hl1 : Lst (h.push ⟨Go.Proofs.YteeanpfhngoobaaGreat.flat X, 6, true⟩) i.size v (Go.Proofs.YteeanpfhngoobaaGreat.flat L) L.length own := by
    rw [hs]
    exact hl.else (l := []) ⟨by show h.nb ≤ h.nb + 1; omega, fun k hk _ => get_push_old _ (by omega)⟩ (fun b _ hb => by cases hb)
  have hap : appended (h.push ⟨Go.Proofs.YteeanpfhngoobaaGreat.flat X, 6, true⟩) i.size (.slice (some ⟨h.nb, 0, none⟩) X.length X.length) = some (X.length, Go.Proofs.YteeanpfhngoobaaGreat.flat X) := by
    unfold appended
    dsimp only
    unfold HP.read
    rw [hs, get_push_new]
    dsimp only
    rw [if_pos ⟨rfl, by rw [flat_len]; omega⟩, List.drop_zero, List.take_of_length_le (by rw [flat_len]; omega)]
  obtain ⟨v', h2, own', happ, hl2, ho, he⟩ := app_lstk (P := Tryz.prog) (e := 46) hi hz ⟨by rw [hs]; rfl, by omega, by omega⟩ hl1 hX hap (by rw [hs, flat_len]) (by omega) (Nat.le_trans (Nat.mul_le_mul hmax hb) (by decide))
  rw [hs, ← hfl, ← List.length_append] at hl2
  have he1 : h.nb + 1 ≤ h2.nb := he.1
  refine ⟨v', h2, own', happ, hl2, ?_, ⟨by omega, fun k hk hkl => by rw [he.2 k (by show k < h.nb + 1; omega) hkl, get_push_old _ (by omega)]⟩⟩
  rcases ho with ho | ho
  · exact .inl ho
  · exact .inr ⟨_, ho, by show h.nb ≤ h.nb + 1; omega⟩
/-- What the law holds in memory. -/
structure AM (h : HP) (n Bn Bl : Nat) (ve vw : Value) (L : List Ev) (la W : List Int) (oe ow : Option Nat) : Prop where
  nn : n ≤ Bn
  nl : n ≤ Bl
  ne : Bn ≠ Bl
  names : h.get Bn = some ⟨[.string nmA, .string nmB, .string nmC], 1, true⟩
  last : h.get Bl = some ⟨ints la, 1, true⟩
  ev : Lst h 6 ve (Go.Proofs.YteeanpfhngoobaaGreat.flat L) L.length oe
  want : Lst h 1 vw (ints W) W.length ow
  oeh : ∀ b, oe = some b → n ≤ b ∧ b ≠ Bn ∧ b ≠ Bl
  owh : ∀ b, ow = some b → n ≤ b ∧ b ≠ Bn ∧ b ≠ Bl
  ap : ∀ b, oe = some b → ow ≠ some b
section
variable {h h2 : HP} {n Bn Bl : Nat} {ve vw : Value} {L : List Ev} {la W : List Int} {oe ow : Option Nat}
theorem AM.else {l : List Nat} (ha : AM h n Bn Bl ve vw L la W oe ow) (he : Else h h2 l) (h1 : Bn ∉ l) (h3 : Bl ∉ l) (h4 : ∀ b, oe = some b → b ∉ l) (h5 : ∀ b, ow = some b → b ∉ l) : AM h2 n Bn Bl ve vw L la W oe ow :=
  { nn := ha.nn, nl := ha.nl, ne := ha.ne, names := (he.2 Bn (get_lt ha.names) h1).trans ha.names, last := (he.2 Bl (get_lt ha.last) h3).trans ha.last, ev := ha.ev.else he h4, want := ha.want.else he h5, oeh := ha.oeh, owh := ha.owh, ap := ha.ap }
theorem AM.keep (ha : AM h n Bn Bl ve vw L la W oe ow) (hk : Keep h.nb h h2) : AM h2 n Bn Bl ve vw L la W oe ow := ha.else (l := []) ⟨hk.1, fun k h _ => hk.2 k h⟩ (by simp) (by simp) (by simp) (by simp)
theorem own_lt {h : HP} {sz k : Nat} {v : Value} {cs : List Value} {own : Option Nat} (hl : Lst h sz v cs k own) : ∀ b, own = some b → b < h.nb := fun b hb => by
  rcases hl.2 with ⟨-, -, q⟩ | ⟨b', c, r, -, q, hg, -⟩
  · rw [q] at hb; cases hb
  · rw [q] at hb; cases hb; exact get_lt hg
theorem AM.evs (ha : AM h n Bn Bl ve vw L la W oe ow) (X : List Ev) (hX : 0 < X.length) (hmax : L.length + X.length ≤ 1048576) :
    ∃ v' h2 oe', app Tryz.prog (h.push ⟨Go.Proofs.YteeanpfhngoobaaGreat.flat X, 6, true⟩) 46 ve (.slice (some ⟨h.nb, 0, none⟩) X.length X.length) = some (v', h2) ∧ AM h2 n Bn Bl v' vw (L ++ X) la W oe' ow ∧ Keep n h h2 := by
  obtain ⟨v', h2, oe', happ, hl, ho, he⟩ := app_evs X hX ha.ev hmax
  have hBn := get_lt ha.names
  have hBl := get_lt ha.last
  have how := own_lt ha.want
  have hnn := ha.nn
  refine ⟨v', h2, oe', happ, ?_, he.1, fun k hk => he.2 k (by omega) fun hm => ?_⟩
  · have hno : ∀ b, oe = some b → b ∈ oe.toList → True := fun _ _ _ => trivial
    exact { nn := ha.nn, nl := ha.nl, ne := ha.ne
            names := (he.2 Bn hBn fun hm => (ha.oeh Bn (by simpa using hm)).2.1 rfl).trans ha.names
            last := (he.2 Bl hBl fun hm => (ha.oeh Bl (by simpa using hm)).2.2 rfl).trans ha.last
            ev := hl
            want := ha.want.else he fun b hb hm => ha.ap b (by simpa using hm) hb
            oeh := fun b hb => by
              rcases ho with ho | ⟨b', ho, hle⟩
              · exact ha.oeh b (ho ▸ hb)
              · rw [ho] at hb; cases hb; refine ⟨by omega, by omega, by omega⟩
            owh := ha.owh
            ap := fun b hb => by
              rcases ho with ho | ⟨b', ho, hle⟩
              · exact ha.ap b (ho ▸ hb)
              · rw [ho] at hb; cases hb
                intro hw
                have := how _ hw
                omega }
  · have := (ha.oeh k (by simpa using hm)).1
    omega
theorem AM.wt (ha : AM h n Bn Bl ve vw L la W oe ow) (x : Int) (hmax : W.length + 1 ≤ 1048576) :
    ∃ v' h2 ow', app Tryz.prog (h.push ⟨[.int .i64 x], 1, true⟩) 3 vw (.slice (some ⟨h.nb, 0, none⟩) 1 1) = some (v', h2) ∧ AM h2 n Bn Bl ve v' L la (W ++ [x]) oe ow' ∧ Keep n h h2 := by
  obtain ⟨v', h2, ow', happ, hl, ho, he, -, -, -⟩ := app_int x ha.want (by omega)
  have hBn := get_lt ha.names
  have hBl := get_lt ha.last
  have how := own_lt ha.ev
  have hnn := ha.nn
  refine ⟨v', h2, ow', happ, ?_, he.1, fun k hk => he.2 k (by omega) fun hm => ?_⟩
  · exact { nn := ha.nn, nl := ha.nl, ne := ha.ne
            names := (he.2 Bn hBn fun hm => (ha.owh Bn (by simpa using hm)).2.1 rfl).trans ha.names
            last := (he.2 Bl hBl fun hm => (ha.owh Bl (by simpa using hm)).2.2 rfl).trans ha.last
            want := by
              have : ints (W ++ [x]) = ints W ++ [.int .i64 x] := by simp [ints]
              rw [this, List.length_append]
              exact hl
            ev := ha.ev.else he fun b hb hm => ha.ap b hb (by simpa using hm)
            owh := fun b hb => by
              rcases ho with ho | ⟨b', ho, hle⟩
              · exact ha.owh b (ho ▸ hb)
              · rw [ho] at hb; cases hb; refine ⟨by omega, by omega, by omega⟩
            oeh := ha.oeh
            ap := fun b hb hw => by
              rcases ho with ho | ⟨b', ho, hle⟩
              · exact ha.ap b hb (ho ▸ hw)
              · rw [ho] at hw; cases hw
                have := how _ hb
                omega }
  · have := (ha.owh k (by simpa using hm)).1
    omega
theorem AM.st (ha : AM h n Bn Bl ve vw L la W oe ow) {k : Nat} (hk : k < la.length) (x : Int) :
    ∃ h2, h.write Bl k [.int .i64 x] = some h2 ∧ AM h2 n Bn Bl ve vw L (la.set k x) W oe ow ∧ Keep n h h2 := by
  have hla : (ints la).length = la.length := by simp [ints]
  have hset : setAt (ints la) k [.int .i64 x] = ints (la.set k x) := by
    apply List.ext_getElem?
    intro i
    rw [setAt_get _ _ _ _ (by simp [ints]; omega)]
    unfold ints
    simp only [List.getElem?_map, List.getElem?_set]
    by_cases hi : k = i
    · subst hi
      rw [if_pos ⟨Nat.le_refl _, by simp⟩, if_pos rfl, if_pos hk, Nat.sub_self]
      rfl
    · rw [if_neg (by simp; omega), if_neg hi]
  refine ⟨h.put Bl ⟨ints (la.set k x), 1, true⟩, ?_, ?_, ⟨Nat.le_refl _, fun j hj => get_put_ne ha.last _ (by have := ha.nl; omega)⟩⟩
  · unfold HP.write
    rw [ha.last]
    dsimp only
    rw [if_pos ⟨rfl, by decide, by simp [ints]; omega⟩, hset]
  · have he : Else h (h.put Bl ⟨ints (la.set k x), 1, true⟩) [Bl] := ⟨Nat.le_refl _, fun j hj hm => get_put_ne ha.last _ (by simpa using hm)⟩
    exact { nn := ha.nn, nl := ha.nl, ne := ha.ne
            names := (he.2 Bn (get_lt ha.names) (by simp [ha.ne])).trans ha.names
            last := get_put_same ha.last _
            ev := ha.ev.else he fun b hb => by simp [(ha.oeh b hb).2.2]
            want := ha.want.else he fun b hb => by simp [(ha.owh b hb).2.2]
            oeh := ha.oeh, owh := ha.owh, ap := ha.ap }
end
/-- A row of numbers that came in. -/
def IsR (h : HP) (n : Nat) (v : Value) (l : List Int) : Prop := (v = .slice none 0 0 ∧ l = []) ∨ ∃ b off c, v = .slice (some ⟨b, off, none⟩) l.length c ∧ b < n ∧ h.read b off l.length = some (ints l)
theorem IsR.keep {h h' : HP} {n : Nat} {v : Value} {l : List Int} (he : IsR h n v l) (hk : Keep n h h') : IsR h' n v l := by
  rcases he with he | ⟨b, off, c, h1, h2, h3⟩
  · exact .inl he
  · refine .inr ⟨b, off, c, h1, h2, ?_⟩
    unfold HP.read at h3 ⊢
    rw [hk.2 b h2]
    exact h3
theorem IsR.at_ {h : HP} {b off i : Nat} {l : List Int} {x : Int} (hr : h.read b off l.length = some (ints l)) (hi : l[i]? = some x) : h.read b (off + i) 1 = some [.int .i64 x] := by
  obtain ⟨r, hg, hl, hle, hq⟩ := read_ok hr
  have hlt := (List.getElem?_eq_some_iff.1 hi).1
  unfold HP.read
  rw [hg]
  dsimp only
  rw [if_pos ⟨hl, by omega⟩]
  congr 1
  have h1 : (r.cells.drop off)[i]? = some (.int .i64 x) := by
    have : ((r.cells.drop off).take l.length)[i]? = some (.int .i64 x) := by
      rw [← hq]
      unfold ints
      rw [List.getElem?_map, hi]
      rfl
    rwa [List.getElem?_take_of_lt hlt] at this
  rw [← List.drop_drop]
  generalize r.cells.drop off = t at h1
  have := List.drop_eq_getElem_cons (List.getElem?_eq_some_iff.1 h1).1
  rw [this, (List.getElem?_eq_some_iff.1 h1).2]
  rfl
-- the text of a small number
def dgFs : List Nat := [17]
theorem dg_ok : (dgFs.all (fnOk Tryz.prog [])) = true := by kernel_rfl
theorem dg_fns : Fns Tryz.prog (FX Tryz.prog dgFs) (lookT []) := fun k fn hk => fx_fns (fun k hk => List.all_eq_true.1 dg_ok k hk) k fn hk
def dgC (P : Program) (k : Nat) (vs : List Value) (h : HP) : Option (Value × HP) := xcall P (FX P dgFs) (lookT []) noneK 1000 10 k vs h
theorem noneK_ok : HC Tryz.prog noneK := fun k vs h v h1 hx => by cases hx
theorem dgC_ok : HC Tryz.prog (dgC Tryz.prog) := xcall_ok dg_fns fx_any noneK_ok 1000 10
def isStr (r : Option (Value × HP)) : Bool := match r with | some (.string _, _) => true | _ => false
theorem dg_all : ((List.range 31).all fun i => isStr (dgC Tryz.prog 17 [.int .i64 (i : Nat)] ⟨0, []⟩)) = true := by kernel_rfl
theorem dig_r {i : Nat} (hi : i ≤ 30) (h : HP) : CallR Tryz.prog 17 [.int .i64 i] h (fun u h' => (∃ s, u = .string s) ∧ h' = h) := by
  have hx := List.all_eq_true.1 dg_all i (List.mem_range.2 (by omega))
  unfold isStr at hx
  split at hx
  · rename_i s h1 hv
    obtain ⟨q1, q2⟩ := dgC_ok 17 _ _ _ h1 hv
    refine ⟨q1, fun B w0 m w hw hok => ?_⟩
    refine (q2 w.heap.size w _ w (WR.none w) (fun u hu => by
      rw [List.mem_singleton.1 hu]
      trivial)).mono fun e w' ⟨m', e0, _, e1, e2, e3⟩ => ?_
    exact ⟨m, .string s, h, Ext.refl, Nat.le_refl _, e1, trivial, hw.on e3.bel, ⟨s, rfl⟩, rfl⟩
  · cases hx
end Go.Proofs.YteeanpfhngoobaaGreat.Xk
