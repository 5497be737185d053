/- The table's functions, in the run's memory. -/
import Derived.Test.YteeanpfhngoobaaGreatZXsm
import Derived.Test.YteeanpfhngoobaaGreatProg
import Derived.KernelRfl
set_option linter.all false
set_option maxRecDepth 100000
namespace Go.Proofs.YteeanpfhngoobaaGreat.Xk
open Go.RowKit

def sizeIs (P : Program) (t : TypeId) (n : Nat) : Bool := match P.info? t with | some i => i.size == n | none => false
theorem info_size {P : Program} {t : TypeId} {n : Nat} (h : sizeIs P t n = true) : ∃ i, P.info? t = some i ∧ i.size = n := by
  unfold sizeIs at h
  split at h
  · rename_i i hi
    exact ⟨i, hi, by simpa using h⟩
  · cases h
theorem size56 : ∃ i, Tryz.prog.info? 56 = some i ∧ i.size = 1 := info_size (by kernel_rfl)
theorem size3 : ∃ i, Tryz.prog.info? 3 = some i ∧ i.zero = some (.int .i64 0) := by
  have h : (match Tryz.prog.info? 3 with | some i => (match i.zero with | some (.int .i64 0) => true | _ => false) | none => false) = true := by kernel_rfl
  split at h
  · rename_i i hi
    split at h
    · rename_i hz
      exact ⟨i, hi, hz⟩
    · cases h
  · cases h
/-- What a table's get answers. -/
def lookV (s : ByteArray) (es : List Value) : Value := match mfind s es 0 with
  | some (_, u) => .tuple #[u, .bool true]
  | none => .tuple #[.int .i64 0, .bool false]
def intsM (es : List Value) : Prop := ∀ s i u, mfind s es 0 = some (i, u) → ∃ n, u = .int .i64 n
theorem get_r {M off : Nat} {p : Option Nat} {s : ByteArray} {es : List Value} {h : HP} (hr : h.read M off 1 = some [.map p]) (hm : mread h p = some es) (hi : intsM es) :
    CallR Tryz.prog 68 [.pointer (some ⟨M, off, none⟩), .string s] h (fun v h' => h' = h ∧ v = lookV s es) := by
  refine CallR.of_body Tryz.func68 (by kernel_rfl) rfl ?_
  show CodeR _ _ [.pointer (some ⟨M, off, none⟩), .string s, undef, undef, undef, undef, undef, undef, undef, undef, undef, undef, undef, undef, undef, undef, undef, undef, undef] h _
  refine CodeR.seq (CodeR.region ?_)
  simp [OpR, xwant, lightK, lop, evl, flat, flat0, putT, thenR, List.range, List.range.loop]
  obtain ⟨i56, hi56, hs56⟩ := size56
  obtain ⟨i3, hi3, hz3⟩ := size3
  refine CodeR.seq (CodeR.region ?_)
  simp [OpR, xwant, lightK, lop, evl, flat, flat0, putT, thenR, List.range, List.range.loop, Tryz.underlying58, Tryz.underlying56, Tryz.underlying9, Tryz.underlying3, hi56, hs56, hi3, hz3, aggD, hr, hop, callAt, hm, scal]
  cases hq : mfind s es 0 with
  | none =>
    simp [noTup]
    refine CodeR.seq (CodeR.region ?_)
    simp [OpR, xwant, lightK, lop, evl, flat, flat0, putT, thenR, List.range, List.range.loop]
    refine CodeR.ret ?_
    simp [xres, thenR, lookV, hq]
  | some q =>
    obtain ⟨i, u⟩ := q
    obtain ⟨n, rfl⟩ := hi s i u hq
    simp [noTup]
    refine CodeR.seq (CodeR.region ?_)
    simp [OpR, xwant, lightK, lop, evl, flat, flat0, putT, thenR, List.range, List.range.loop]
    refine CodeR.ret ?_
    simp [xres, thenR, lookV, hq]
  trace_state
end Go.Proofs.YteeanpfhngoobaaGreat.Xk
set_option maxRecDepth 100000
namespace Go.Proofs.YteeanpfhngoobaaGreat.Xk
open Go.RowKit

section
variable {h : HP} {b k o e : Nat} {cs : List Value} {v : Value}
theorem read1 (hg : h.get b = some ⟨cs, e, true⟩) (hc : cs[o]? = some v) : h.read b o 1 = some [v] := by
  have hlt := (List.getElem?_eq_some_iff.1 hc).1
  unfold HP.read
  rw [hg]
  dsimp only
  rw [if_pos ⟨rfl, by omega⟩, List.drop_eq_getElem_cons hlt]
  rw [List.getElem?_eq_getElem hlt] at hc
  cases hc
  rfl
theorem write1 (hg : h.get b = some ⟨cs, e, true⟩) (hc : o < cs.length) (v : Value) (he : e ≠ 0 := by first | assumption | decide) : h.write b o [v] = some (h.put b ⟨cs.set o v, e, true⟩) := by
  unfold HP.write
  rw [hg]
  dsimp only
  rw [if_pos ⟨rfl, he, by simp only [List.length_singleton]; omega⟩]
  rfl
theorem get_push {r r' : RB} (hg : h.get b = some r) : (h.push r').get b = some r := by
  rw [get_push_old _ (by have := get_lt hg; omega)]
  exact hg
theorem mread_get {es : List Value} (hg : h.get k = some ⟨es, 0, false⟩) : mread h (some k) = some es := by
  unfold mread
  dsimp only
  rw [hg]
  simp
end
/-- What a set leaves alone. -/
def Else (h h' : HP) (l : List Nat) : Prop := h.nb ≤ h'.nb ∧ ∀ k, k < h.nb → k ∉ l → h'.get k = h.get k
theorem CallR.of_body1 {P : Program} {h : HP} {k : Nat} {fn : Func} {c : Code} {vs : List Value} {R : Value → HP → Prop} (hfn : P.funcs[k]? = some fn) (hn : (fn.name == "runtime.NumGoroutine") = false) (hb : fn.body = some c)
    (hc : ∀ Q : Exit → List Value → HP → Prop, (∀ e t g us, (e = .normal ∨ e = .ret) → xres P t g fn.results.toList = some us → ((∃ v, us = [v] ∧ R v g) ∨ (us.length ≠ 1 ∧ us.all noTup = true ∧ R (.tuple us.toArray) g)) → Q e t g) → CodeR P c (vs ++ List.replicate (fn.ntmps - vs.length) undef) h Q) : CallR P k vs h R :=
  CallR.of_body hfn hn hb (hc _ fun e t g us h1 h2 h3 => ⟨h1, us, h2, h3⟩)
theorem empty_r {M off e : Nat} {p : Option Nat} {cs : List Value} {h : HP} (hg : h.get M = some ⟨cs, e, true⟩) (hc : cs[off]? = some (.map p)) (he : e ≠ 0 := by first | assumption | decide) :
    CallR Tryz.prog 36 [.pointer (some ⟨M, off, none⟩)] h (fun v h' => h' = h.put M ⟨cs.set off (.map none), e, true⟩) := by
  have hlt := (List.getElem?_eq_some_iff.1 hc).1
  obtain ⟨i56, hi56, hs56⟩ := size56
  have hw := write1 hg hlt (.map none)
  refine CallR.of_body1 Tryz.func36 (by kernel_rfl) rfl fun Q hQ => ?_
  show CodeR _ _ [.pointer (some ⟨M, off, none⟩), undef, undef, undef, undef] h _
  refine CodeR.region ?_
  simp [OpR, xwant, lightK, lop, evl, flat, flat0, putT, thenR, List.range, List.range.loop, Tryz.underlying58, Tryz.underlying56, hi56, hs56, aggD, hop, callAt, cellsOf, isCell, hw]
  exact hQ _ _ _ [] (.inl rfl) rfl (.inr ⟨by simp, rfl, rfl⟩)
theorem set_r {M off e : Nat} {p : Option Nat} {s : ByteArray} {n : Int} {cs es : List Value} {h : HP} (hg : h.get M = some ⟨cs, e, true⟩) (hc : cs[off]? = some (.map p)) (hm : mread h p = some es) (he : e ≠ 0 := by first | assumption | decide) :
    CallR Tryz.prog 64 [.pointer (some ⟨M, off, none⟩), .string s, .int .i64 n] h (fun v h' => ∃ r, h'.get M = some ⟨cs.set off (.map (some r)), e, true⟩ ∧ h'.get r = some ⟨mset s (.int .i64 n) es, 0, false⟩ ∧ Else h h' (M :: p.toList) ∧ r ≠ M ∧ (∀ k, p = some k → r = k) ∧ (p = none → r = h.nb)) := by
  have hlt := (List.getElem?_eq_some_iff.1 hc).1
  have hM := get_lt hg
  obtain ⟨i56, hi56, hs56⟩ := size56
  refine CallR.of_body1 Tryz.func64 (by kernel_rfl) rfl fun Q hQ => ?_
  show CodeR _ _ [.pointer (some ⟨M, off, none⟩), .string s, .int .i64 n, undef, undef, undef, undef, undef, undef, undef, undef, undef, undef, undef, undef, undef, undef, undef, undef, undef, undef] h _
  have hrd := read1 hg hc
  refine CodeR.seq (CodeR.seq (CodeR.region ?_))
  simp [OpR, xwant, lightK, lop, evl, flat, flat0, putT, thenR, List.range, List.range.loop, Tryz.underlying58, Tryz.underlying56, hi56, hs56, aggD, hrd, nilEq]
  cases p with
  | none =>
    have hes : es = [] := by simpa [mread] using hm.symm
    subst hes
    refine CodeR.cond (b := true) (by simp [evl]) ?_
    simp only [if_true]
    refine CodeR.region ?_
    have hg1 := get_push (r' := ⟨[], 0, false⟩) hg
    have hw := write1 hg1 hlt (.map (some h.nb))
    simp [OpR, xwant, lightK, lop, evl, flat, flat0, putT, thenR, List.range, List.range.loop, Tryz.underlying58, Tryz.underlying56, hi56, hs56, aggD, hop, callAt, cellsOf, isCell, hw]
    have hg2 := get_put_same hg1 ⟨cs.set off (.map (some h.nb)), e, true⟩
    have hrd2 := read1 hg2 (o := off) (v := .map (some h.nb)) (by simp [hlt])
    have hgm := (get_put_ne hg1 ⟨cs.set off (.map (some h.nb)), e, true⟩ (k := h.nb) (by omega)).trans (get_push_new _)
    have hmr := mread_get hgm
    refine CodeR.region ?_
    simp [OpR, xwant, lightK, lop, evl, flat, flat0, putT, thenR, List.range, List.range.loop, Tryz.underlying58, Tryz.underlying56, Tryz.underlying9, hi56, hs56, aggD, hop, callAt, cellsOf, isCell, hrd2, hmr, scal]
    refine hQ _ _ _ [] (.inl rfl) rfl (.inr ⟨by simp, rfl, h.nb, ?_, get_put_same hgm _, ⟨?_, fun k hk hkl => ?_⟩, by omega, (fun k hk => by cases hk), fun _ => rfl⟩)
    · rw [get_put_ne hgm _ (by omega)]; exact hg2
    · show h.nb ≤ h.nb + 1; omega
    · simp at hkl
      rw [get_put_ne hgm _ (by omega), get_put_ne hg1 _ hkl, get_push_old _ (by omega)]
  | some r =>
    refine CodeR.cond (b := false) (by simp [evl]) ?_
    simp only [Bool.false_eq_true, if_false]
    refine CodeR.skip ?_
    simp only [thenR]
    have hgr : h.get r = some ⟨es, 0, false⟩ := by
      unfold mread at hm
      dsimp only at hm
      split at hm
      · rename_i x hx
        split at hm
        · rename_i hc
          obtain ⟨x1, x2, x3⟩ := x
          obtain ⟨rfl, rfl⟩ := hc
          cases hm
          exact hx
        · cases hm
      · cases hm
    have hne : r ≠ M := fun e => by subst e; rw [hg] at hgr; cases hgr
    refine CodeR.region ?_
    simp [OpR, xwant, lightK, lop, evl, flat, flat0, putT, thenR, List.range, List.range.loop, Tryz.underlying58, Tryz.underlying56, Tryz.underlying9, hi56, hs56, aggD, hop, callAt, cellsOf, isCell, hrd, hm, scal]
    refine hQ _ _ _ [] (.inl rfl) rfl (.inr ⟨by simp, rfl, r, ?_, get_put_same hgr _, ⟨Nat.le_refl _, fun k hk hkl => ?_⟩, hne, (fun k hk => by cases hk; rfl), (fun hk => by cases hk)⟩)
    · rw [get_put_ne hgr _ (fun e => hne e.symm), hg]
      rw [List.getElem?_eq_getElem hlt] at hc
      rw [← Option.some.inj hc, List.set_getElem_self]
    · simp at hkl
      exact get_put_ne hgr _ hkl.2
end Go.Proofs.YteeanpfhngoobaaGreat.Xk
set_option maxRecDepth 100000
namespace Go.Proofs.YteeanpfhngoobaaGreat.Xk
open Go.RowKit

/-- The slice v holds these cells, n elements of sz cells each, in a block of its own. -/
def Lst (h : HP) (sz : Nat) (v : Value) (cs : List Value) (n : Nat) (own : Option Nat) : Prop :=
  cs.length = n * sz ∧ ((v = .slice none 0 0 ∧ n = 0 ∧ own = none) ∨ ∃ b c r, v = .slice (some ⟨b, 0, none⟩) n c ∧ own = some b ∧ h.get b = some ⟨r, sz, true⟩ ∧ r.take (n * sz) = cs ∧ n ≤ c ∧ c * sz ≤ r.length)
theorem Lst.else {h h' : HP} {sz n : Nat} {v : Value} {cs : List Value} {own : Option Nat} (hl : Lst h sz v cs n own) {l : List Nat} (he : Else h h' l) (hn : ∀ b, own = some b → b ∉ l) : Lst h' sz v cs n own := by
  obtain ⟨h1, h2⟩ := hl
  refine ⟨h1, h2.imp id ?_⟩
  rintro ⟨b, c, r, q1, q2, q3, q4⟩
  exact ⟨b, c, r, q1, q2, (he.2 b (get_lt q3) (hn b q2)).trans q3, q4⟩
theorem setAt_take {r new : List Value} {o : Nat} (hl : o + new.length ≤ r.length) : (setAt r o new).take (o + new.length) = r.take o ++ new := by
  apply List.ext_getElem?
  intro i
  by_cases h1 : i < o + new.length
  · rw [List.getElem?_take_of_lt h1, setAt_get _ _ _ _ hl]
    by_cases h2 : o ≤ i
    · rw [if_pos ⟨h2, h1⟩, List.getElem?_append_right (by simp; omega)]
      congr 1
      simp; omega
    · rw [if_neg (by omega), List.getElem?_append_left (by simp; omega), List.getElem?_take_of_lt (by omega)]
  · rw [List.getElem?_eq_none (by simp; omega), List.getElem?_eq_none (by simp; omega)]
theorem app_lst {P : Program} {h : HP} {e : TypeId} {inf : TypeInfo} {z v x : Value} {cs new : List Value} {n : Nat} {own : Option Nat} (hi : P.info? e = some inf) (hz : inf.zero = some z) (hs : z.cells.size = inf.size ∧ 0 < inf.size ∧ inf.bytes ≤ 1024)
    (hl : Lst h inf.size v cs n own) (hx : appended h inf.size x = some (1, new)) (hnew : new.length = inf.size) (hmax : n + 1 ≤ 5864062014805) (hmb : (n + 1) * inf.bytes ≤ 140737488355328) :
    ∃ v' h' own', app P h e v x = some (v', h') ∧ Lst h' inf.size v' (cs ++ new) (n + 1) own' ∧ (own' = own ∨ own' = some h.nb) ∧ Else h h' own.toList := by
  obtain ⟨hlen, hl⟩ := hl
  have hlen2 : (cs ++ new).length = (n + 1) * inf.size := by rw [List.length_append, hlen, hnew, Nat.add_mul, Nat.one_mul]
  unfold app
  rw [hi]
  dsimp only
  rw [hz]
  dsimp only
  rw [if_neg (fun hn => hn hs), hx]
  dsimp only
  rcases hl with ⟨rfl, rfl, rfl⟩ | ⟨b, c, r, rfl, rfl, hg, ht, hnc, hcl⟩
  · try dsimp only
    rw [if_neg (by omega), if_pos ⟨by omega, by omega⟩]
    obtain rfl : cs = [] := List.eq_nil_of_length_eq_zero (by simpa using hlen)
    refine ⟨_, _, some h.nb, rfl, ⟨hlen2, .inr ⟨h.nb, 1, new, rfl, rfl, get_push_new _, ?_, Nat.le_refl _, by omega⟩⟩, .inr rfl, by show h.nb ≤ h.nb + 1; omega, fun k hk _ => get_push_old _ (by omega)⟩
    rw [List.nil_append]
    exact List.take_of_length_le (by omega)
  · try dsimp only
    rw [hg]
    dsimp only
    rw [if_neg (fun hn => hn ⟨rfl, rfl, by omega, hmb⟩)]
    have hm1 : n * inf.size ≤ c * inf.size := Nat.mul_le_mul_right _ hnc
    by_cases hf : n + 1 ≤ c
    · have hm2 : (n + 1) * inf.size ≤ c * inf.size := Nat.mul_le_mul_right _ hf
      rw [Nat.add_mul, Nat.one_mul] at hm2
      have hwr : h.write b (0 + n * inf.size) new = some (h.put b ⟨setAt r (n * inf.size) new, inf.size, true⟩) := by
        unfold HP.write
        rw [hg]
        dsimp only
        rw [if_pos ⟨rfl, by have := hs.2.1; omega, by omega⟩, Nat.zero_add]
      rw [if_pos hf, hwr]
      refine ⟨_, _, some b, rfl, ⟨hlen2, .inr ⟨b, c, _, rfl, rfl, get_put_same hg _, ?_, hf, by rw [setAt_len]; exact hcl⟩⟩, .inl rfl, Nat.le_refl _, fun k hk hkl => get_put_ne hg _ (by simpa using hkl)⟩
      rw [show (n + 1) * inf.size = n * inf.size + new.length by rw [hnew, Nat.add_mul, Nat.one_mul], setAt_take (by omega), ht]
    · have hrd : h.read b 0 (n * inf.size) = some cs := by
        unfold HP.read
        rw [hg]
        dsimp only
        rw [if_pos ⟨rfl, by omega⟩, List.drop_zero, ht]
      rw [if_neg hf, hrd]
      dsimp only
      have hpn : (h.put b ⟨r, inf.size, false⟩).nb = h.nb := rfl
      refine ⟨_, _, some h.nb, rfl, ⟨hlen2, .inr ⟨h.nb, n + 1, cs ++ new, rfl, rfl, get_push_new (h := h.put b ⟨r, inf.size, false⟩) _, List.take_of_length_le (by omega), Nat.le_refl _, by omega⟩⟩, .inr rfl, by show h.nb ≤ h.nb + 1; omega, fun k hk hkl => ?_⟩
      rw [get_push_old _ (by rw [hpn]; omega), get_put_ne hg _ (by simpa using hkl)]
end Go.Proofs.YteeanpfhngoobaaGreat.Xk
set_option maxRecDepth 100000
namespace Go.Proofs.YteeanpfhngoobaaGreat.Xk
open Go.RowKit

section
variable {P : Program} {tm : List Value} {h h1 : HP} {dst : Option Tmp} {type : TypeId} {pos : String} {after : Array Edge} {guard : Option (Nat × Bool)} {call : Nat → List Value → HP → Option (Value × HP)}
theorem hop_app {x y : Operand} {t u e e' : TypeId} {vx vy : Value} (ht : P.underlying t = some (.slice e)) (hu : P.underlying u = some (.slice e')) (hx : evl tm x = some vx) (hy : evl tm y = some vy) :
    hop P call tm h ⟨dst, .call ⟨.builtin .append, #[x, y], #[t, u]⟩, type, pos, after, guard⟩ = app P h e vx vy := by
  unfold hop
  simp [isApp, ht, hu, hx, hy]
theorem hop_store {x y : Operand} {t : TypeId} {i : TypeInfo} {b off : Nat} {v : Value} {cs : List Value} (hi : P.info? t = some i) (hx : evl tm x = some (.pointer (some ⟨b, off, none⟩))) (hy : evl tm y = some v) (hc : cellsOf v = some cs) (hl : cs.length = i.size) (ha : cs.all isCell = true) (hw : h.write b off cs = some h1) :
    hop P call tm h ⟨dst, .store t x y, type, pos, after, guard⟩ = some (undef, h1) := by
  unfold hop
  dsimp only
  rw [hi, hx, hy]
  dsimp only
  rw [hc]
  dsimp only
  rw [if_pos ⟨hl, ha⟩, hw]
end
theorem int3 : ∃ i, Tryz.prog.info? 3 = some i ∧ i.size = 1 ∧ i.zero = some (.int .i64 0) ∧ i.bytes ≤ 8 := by
  have h : (match Tryz.prog.info? 3 with | some i => i.size == 1 && decide (i.bytes ≤ 8) && (match i.zero with | some (.int .i64 0) => true | _ => false) | none => false) = true := by kernel_rfl
  split at h
  · rename_i i hi
    simp only [Bool.and_eq_true, beq_iff_eq, decide_eq_true_eq] at h
    obtain ⟨⟨h1, h2⟩, h3⟩ := h
    split at h3
    · rename_i hz
      exact ⟨i, hi, h1, hz, h2⟩
    · cases h3
  · cases h
theorem size26 : ∃ i, Tryz.prog.info? 26 = some i ∧ i.size = 1 := info_size (by kernel_rfl)
theorem build1 {tm : List Value} {h : HP} {x : Operand} {n : Int} {dst : Option Tmp} {type : TypeId} {pos : String} {after : Array Edge} {guard : Option (Nat × Bool)} (hx : evl tm x = some (.int .i64 n)) :
    hop Tryz.prog noneK tm h ⟨dst, .buildSlice 26 1 #[(0, x)], type, pos, after, guard⟩ = some (.slice (some ⟨h.nb, 0, none⟩) 1 1, h.push ⟨[.int .i64 n], 1, true⟩) := by
  obtain ⟨i, hi, hs, hz, hb⟩ := int3
  unfold hop
  simp [Tryz.underlying26, evps, hx, cellsOf, isCell, hi, hz, hs, Value.cells, flat0, Instr.fill, Array.toList_range, List.range, List.range.loop]
theorem size_r {M off e n : Nat} {v : Value} {cs L : List Value} {own : Option Nat} {h : HP} (hg : h.get M = some ⟨cs, e, true⟩) (hc : cs[off]? = some v) (hl : Lst h 1 v L n own) :
    CallR Tryz.prog 65 [.pointer (some ⟨M, off, none⟩)] h (fun v h' => v = .int .i64 n ∧ h' = h) := by
  have hrd := read1 hg hc
  have hv : ∃ p c, v = .slice p n c := by
    rcases hl.2 with ⟨rfl, rfl, -⟩ | ⟨b, c, r, rfl, -⟩
    · exact ⟨_, _, rfl⟩
    · exact ⟨_, _, rfl⟩
  obtain ⟨p, c, rfl⟩ := hv
  obtain ⟨i26, hi26, hs26⟩ := size26
  refine CallR.of_body1 Tryz.func65 (by kernel_rfl) rfl fun Q hQ => ?_
  show CodeR _ _ [.pointer (some ⟨M, off, none⟩), undef, undef, undef, undef, undef, undef, undef] h _
  refine CodeR.seq (CodeR.region ?_)
  simp [OpR, xwant, lightK, lop, evl, flat, flat0, putT, thenR, List.range, List.range.loop]
  refine CodeR.seq (CodeR.region ?_)
  simp [OpR, xwant, lightK, lop, evl, flat, flat0, putT, thenR, List.range, List.range.loop, Tryz.underlying55, Tryz.underlying26, hi26, hs26, aggD, hrd, isLen, isMM, callAt]
  refine CodeR.ret ?_
  exact hQ _ _ _ [.int .i64 n] (.inr rfl) rfl (.inl ⟨_, rfl, rfl, rfl⟩)
theorem push_r {M off e n : Nat} {v : Value} {cs L : List Value} {own : Option Nat} {x : Int} {h : HP} (hg : h.get M = some ⟨cs, e, true⟩) (hc : cs[off]? = some v) (hl : Lst h 1 v L n own) (hM : own ≠ some M) (hmax : n + 1 ≤ 5864062014805) (he : e ≠ 0 := by first | assumption | decide) :
    CallR Tryz.prog 66 [.pointer (some ⟨M, off, none⟩), .int .i64 x] h (fun _ h' => ∃ v' own', h'.get M = some ⟨cs.set off v', e, true⟩ ∧ Lst h' 1 v' (L ++ [.int .i64 x]) (n + 1) own' ∧ Else h h' (M :: own.toList) ∧ (own' = own ∨ ∃ b, own' = some b ∧ h.nb ≤ b)) := by
  have hrd := read1 hg hc
  have hlt := (List.getElem?_eq_some_iff.1 hc).1
  obtain ⟨i, hi, hs, hz, hb⟩ := int3
  obtain ⟨i26, hi26, hs26⟩ := size26
  have hl1 : Lst (h.push ⟨[.int .i64 x], 1, true⟩) i.size v L n own := by
    rw [hs]
    exact hl.else (l := []) ⟨by show h.nb ≤ h.nb + 1; omega, fun k hk _ => get_push_old _ (by omega)⟩ (fun b _ hb => by cases hb)
  have hap : appended (h.push ⟨[.int .i64 x], 1, true⟩) i.size (.slice (some ⟨h.nb, 0, none⟩) 1 1) = some (1, [.int .i64 x]) := by
    unfold appended
    dsimp only
    rw [hs, Nat.mul_one, read1 (get_push_new _) (o := 0) rfl]
  obtain ⟨v', h2, own', happ, hl2, ho, he⟩ := app_lst (P := Tryz.prog) (e := 3) hi hz ⟨by rw [hs]; rfl, by omega, by omega⟩ hl1 hap (by rw [hs]; rfl) (by omega) (Nat.le_trans (Nat.mul_le_mul hmax hb) (by decide))
  rw [hs] at hl2
  have hg2 : h2.get M = some ⟨cs, e, true⟩ := by
    rw [he.2 M (by have := get_lt hg; show M < h.nb + 1; omega) (by simpa using hM)]
    exact get_push hg
  have hv' : isCell v' = true := by
    rcases hl2.2 with ⟨rfl, -⟩ | ⟨b, c, r, rfl, -⟩ <;> rfl
  have hwr := write1 hg2 hlt v'
  have hcv : cellsOf v' = some [v'] := by
    rcases hl2.2 with ⟨rfl, -⟩ | ⟨b, c, r, rfl, -⟩ <;> rfl
  refine CallR.of_body1 Tryz.func66 (by kernel_rfl) rfl fun Q hQ => ?_
  show CodeR _ _ [.pointer (some ⟨M, off, none⟩), .int .i64 x, undef, undef, undef, undef, undef, undef, undef, undef, undef, undef, undef, undef] h _
  refine CodeR.region ?_
  simp [OpR, xwant, lightK, lop, evl, flat, flat0, putT, thenR, List.range, List.range.loop, Tryz.underlying55, Tryz.underlying26, hi26, hs26, aggD, hrd, isLen, isMM, callAt, isApp, build1]
  rw [hop_app (vx := v) (vy := .slice (some ⟨h.nb, 0, none⟩) 1 1) Tryz.underlying26 Tryz.underlying26 rfl rfl, happ]
  dsimp only
  rw [hop_store (b := M) (off := off) (v := v') hi26 rfl rfl hcv (by rw [hs26]; rfl) (by simp [hv']) hwr]
  dsimp only
  refine hQ _ _ _ [] (.inl rfl) rfl (.inr ⟨by simp, rfl, v', own', get_put_same hg2 _, ?_, ⟨?_, fun k hk hkl => ?_⟩, ?_⟩)
  · refine hl2.else (l := [M]) ⟨Nat.le_refl _, fun k hk hkl => get_put_ne hg2 _ (by simpa using hkl)⟩ fun b hb hbm => ?_
    simp at hbm
    subst hbm
    rcases ho with ho | ho
    · exact hM (ho ▸ hb)
    · rw [hb] at ho
      have := get_lt hg
      have e2 : b = h.nb + 1 := Option.some.inj ho
      omega
  · have : h.nb + 1 ≤ h2.nb := he.1
    show h.nb ≤ h2.nb
    omega
  · simp only [List.mem_cons, not_or] at hkl
    rw [get_put_ne hg2 _ hkl.1, he.2 k (by show k < h.nb + 1; omega) hkl.2, get_push_old _ (by omega)]
  · rcases ho with ho | ho
    · exact .inl ho
    · exact .inr ⟨_, ho, by show h.nb ≤ h.nb + 1; omega⟩
end Go.Proofs.YteeanpfhngoobaaGreat.Xk
