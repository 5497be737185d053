/- The maker's state, in the run's memory; put at a root. -/
import Derived.Test.YteeanpfhngoobaaGreatZXt7
set_option linter.all false
set_option maxRecDepth 100000
namespace Go.Proofs.YteeanpfhngoobaaGreat.Xk
open Go.RowKit

/-- A node of a graph. -/
structure Nd where
  k : Int
  tg : ByteArray
  tx : ByteArray
  kids : List Int
  pl : Bool
def ints (l : List Int) : List Value := l.map fun n => .int .i64 n
def nodeCells : List Nd → List Value → List Value
  | x :: N, v :: kv => [.int .i64 x.k, .string x.tg, .string x.tx, v, .bool x.pl] ++ nodeCells N kv
  | _, _ => []
theorem nodeCells_len : ∀ (N : List Nd) (kv : List Value), kv.length = N.length → (nodeCells N kv).length = N.length * 5
  | [], kv, h => by cases kv <;> simp [nodeCells] at h ⊢
  | x :: N, [], h => by simp at h
  | x :: N, v :: kv, h => by
    have := nodeCells_len N kv (by simpa using h)
    simp only [nodeCells, List.length_append, this, List.length_cons, List.length_nil]
    omega
theorem nodeCells_snoc : ∀ (N : List Nd) (kv : List Value) (x : Nd) (v : Value), kv.length = N.length → nodeCells (N ++ [x]) (kv ++ [v]) = nodeCells N kv ++ [.int .i64 x.k, .string x.tg, .string x.tx, v, .bool x.pl]
  | [], kv, x, v, h => by
    cases kv with
    | nil => rfl
    | cons a b => simp at h
  | y :: N, [], x, v, h => by simp at h
  | y :: N, u :: kv, x, v, h => by
    have := nodeCells_snoc N kv x v (by simpa using h)
    simp only [List.cons_append, nodeCells, this, List.append_assoc]
theorem nodeCells_at : ∀ (N : List Nd) (kv : List Value) (i : Nat) (x : Nd) (v : Value), N[i]? = some x → kv[i]? = some v → ∀ j u, [Value.int .i64 x.k, .string x.tg, .string x.tx, v, .bool x.pl][j]? = some u → (nodeCells N kv)[i * 5 + j]? = some u
  | [], _, i, x, v, hx, _, _, _, _ => by simp at hx
  | y :: N, [], i, x, v, _, hv, _, _, _ => by simp at hv
  | y :: N, z :: kv, 0, x, v, hx, hv, j, u, hu => by
    simp at hx hv
    subst hx
    subst hv
    have hj := (List.getElem?_eq_some_iff.1 hu).1
    rw [nodeCells, List.getElem?_append_left (by simpa using hj), Nat.zero_mul, Nat.zero_add]
    exact hu
  | y :: N, z :: kv, i + 1, x, v, hx, hv, j, u, hu => by
    have := nodeCells_at N kv i x v (by simpa using hx) (by simpa using hv) j u hu
    rw [nodeCells, List.getElem?_append_right (by simp; omega), ← this]
    congr 1
    simp
    omega
def ownL (M : Nat) (on r oo mp : Option Nat) (oks : List (Option Nat)) : List Nat := M :: (on.toList ++ (r.toList ++ (oo.toList ++ (mp.toList ++ oks.flatMap (·.toList)))))
/-- The maker: nodes, roots, what is open (the last one innermost), names, limits. -/
structure MK (h : HP) (M : Nat) (N : List Nd) (R O : List Int) (T : List Value) (D K : Int) (ns rs os : Value) (mp on r oo : Option Nat) (kv : List Value) (oks : List (Option Nat)) : Prop where
  cells : h.get M = some ⟨[ns, rs, os, .map mp, .int .i64 D, .int .i64 K], 1, true⟩
  nodes : Lst h 5 ns (nodeCells N kv) N.length on
  roots : Lst h 1 rs (ints R) R.length r
  opn : Lst h 1 os (ints O) O.length oo
  names : mread h mp = some T
  lk : kv.length = N.length
  lo : oks.length = N.length
  kids : ∀ (i : Nat) (x : Nd) (v : Value) (o : Option Nat), N[i]? = some x → kv[i]? = some v → oks[i]? = some o → Lst h 1 v (ints x.kids) x.kids.length o
  apart : (ownL M on r oo mp oks).Nodup
theorem nodup_turn {A X : List Nat} {r r' : Option Nat} {n : Nat} (h : (A ++ (r.toList ++ X)).Nodup) (hlt : ∀ b ∈ A ++ (r.toList ++ X), b < n) (hr : r' = r ∨ ∃ b, r' = some b ∧ n ≤ b) : (A ++ (r'.toList ++ X)).Nodup := by
  rcases hr with rfl | ⟨b, rfl, hb⟩
  · exact h
  · have h1 : (r.toList ++ (A ++ X)).Nodup := (List.perm_append_comm_assoc A r.toList X).nodup_iff.1 h
    have h2 : (A ++ X).Nodup := (List.nodup_append.1 h1).2.1
    refine (List.perm_append_comm_assoc A [b] X).nodup_iff.2 ?_
    rw [List.singleton_append, List.nodup_cons]
    refine ⟨fun hm => ?_, h2⟩
    have := hlt b (by
      rcases List.mem_append.1 hm with hm | hm
      · exact List.mem_append_left _ hm
      · exact List.mem_append_right _ (List.mem_append_right _ hm))
    omega
section
variable {h h' : HP} {M : Nat} {N : List Nd} {R O : List Int} {T : List Value} {D K : Int} {ns rs os : Value} {mp on r oo : Option Nat} {kv : List Value} {oks : List (Option Nat)}
theorem Lst.own_lt {sz n : Nat} {v : Value} {cs : List Value} {own : Option Nat} (hl : Lst h sz v cs n own) : ∀ b, own = some b → b < h.nb := fun b hb => by
  rcases hl.2 with ⟨-, -, rfl⟩ | ⟨b', c, r, -, rfl, hg, -⟩
  · cases hb
  · cases hb
    exact get_lt hg
theorem mread_lt {es : List Value} (hm : mread h mp = some es) : ∀ b, mp = some b → b < h.nb := fun b hb => by
  subst hb
  unfold mread at hm
  dsimp only at hm
  split at hm
  · rename_i r hr
    exact get_lt hr
  · cases hm
theorem MK.ok_lt (hk : MK h M N R O T D K ns rs os mp on r oo kv oks) {b : Nat} (hb : b ∈ oks.flatMap (·.toList)) : b < h.nb := by
  obtain ⟨o, ho, hb⟩ := List.mem_flatMap.1 hb
  obtain ⟨i, hi⟩ := List.getElem?_of_mem ho
  have hlt := (List.getElem?_eq_some_iff.1 hi).1
  have h1 : i < N.length := by have := hk.lo; omega
  have h2 : i < kv.length := by have := hk.lk; omega
  exact (hk.kids i _ _ _ (List.getElem?_eq_getElem h1) (List.getElem?_eq_getElem h2) hi).own_lt b (by simpa using hb)
theorem MK.lt (hk : MK h M N R O T D K ns rs os mp on r oo kv oks) : ∀ b ∈ ownL M on r oo mp oks, b < h.nb := fun b hb => by
  unfold ownL at hb
  simp only [List.mem_cons, List.mem_append, Option.mem_toList] at hb
  rcases hb with rfl | hb | hb | hb | hb | hb
  · exact get_lt hk.cells
  · exact hk.nodes.own_lt b hb
  · exact hk.roots.own_lt b hb
  · exact hk.opn.own_lt b hb
  · exact mread_lt hk.names b hb
  · exact hk.ok_lt hb
theorem mread_else {l : List Nat} {es : List Value} (hm : mread h mp = some es) (he : Else h h' l) (hn : ∀ b, mp = some b → b ∉ l) : mread h' mp = some es := by
  cases mp with
  | none => exact hm
  | some b =>
    have hlt := mread_lt hm b rfl
    have := he.2 b hlt (hn b rfl)
    unfold mread at hm ⊢
    dsimp only at hm ⊢
    rw [this]
    exact hm
theorem ok_mem {i : Nat} {o : Option Nat} {b : Nat} (hi : oks[i]? = some o) (hb : o = some b) : b ∈ oks.flatMap (·.toList) := List.mem_flatMap.2 ⟨o, List.mem_of_getElem? hi, by simp [hb]⟩
/-- A root more. -/
theorem MK.root (hk : MK h M N R O T D K ns rs os mp on r oo kv oks) {rs' : Value} {r' : Option Nat} {x : Int} (hc : h'.get M = some ⟨[ns, rs', os, .map mp, .int .i64 D, .int .i64 K], 1, true⟩) (hl : Lst h' 1 rs' (ints (R ++ [x])) (R.length + 1) r')
    (he : Else h h' (M :: r.toList)) (hr : r' = r ∨ ∃ b, r' = some b ∧ h.nb ≤ b) : MK h' M N (R ++ [x]) O T D K ns rs' os mp on r' oo kv oks := by
  obtain ⟨a1, a2⟩ := List.nodup_cons.1 hk.apart
  obtain ⟨b1, b2, b3⟩ := List.nodup_append.1 a2
  obtain ⟨c1, c2, c3⟩ := List.nodup_append.1 b2
  have rest : ∀ b, b ∈ oo.toList ++ (mp.toList ++ oks.flatMap (·.toList)) → b ∉ M :: r.toList := fun b hb hm => by
    rcases List.mem_cons.1 hm with rfl | hm
    · exact a1 (List.mem_append_right _ (List.mem_append_right _ hb))
    · exact c3 b hm b hb rfl
  refine { cells := hc, nodes := hk.nodes.else he fun b hb hm => ?_, roots := by rw [List.length_append]; exact hl, opn := hk.opn.else he fun b hb => rest b (by simp [hb]), names := mread_else hk.names he fun b hb => rest b (by simp [hb]), lk := hk.lk, lo := hk.lo, kids := fun i x v o h1 h2 h3 => (hk.kids i x v o h1 h2 h3).else he fun b hb => rest b (List.mem_append_right _ (List.mem_append_right _ (ok_mem h3 hb))), apart := ?_ }
  · rcases List.mem_cons.1 hm with rfl | hm
    · exact a1 (by simp [hb])
    · exact b3 b (by simp [hb]) b (List.mem_append_left _ hm) rfl
  · exact nodup_turn (A := M :: on.toList) hk.apart hk.lt hr
end
end Go.Proofs.YteeanpfhngoobaaGreat.Xk
set_option maxRecDepth 100000
namespace Go.Proofs.YteeanpfhngoobaaGreat.Xk
open Go.RowKit

theorem size55 : ∃ i, Tryz.prog.info? 55 = some i ∧ i.size = 1 := info_size (by kernel_rfl)
theorem size28 : ∃ i, Tryz.prog.info? 28 = some i ∧ i.size = 2 := info_size (by kernel_rfl)
/-- What a list's append of one int does, as the operations take it: the one behind buildSlice. -/
theorem app_int {h : HP} {v : Value} {L : List Value} {n : Nat} {own : Option Nat} (x : Int) (hl : Lst h 1 v L n own) (hmax : n + 1 ≤ 5864062014805) :
    ∃ v' h2 own', app Tryz.prog (h.push ⟨[.int .i64 x], 1, true⟩) 3 v (.slice (some ⟨h.nb, 0, none⟩) 1 1) = some (v', h2) ∧ Lst h2 1 v' (L ++ [.int .i64 x]) (n + 1) own' ∧ (own' = own ∨ ∃ b, own' = some b ∧ h.nb ≤ b) ∧ Else h h2 own.toList ∧ isCell v' = true ∧ cellsOf v' = some [v'] ∧ (∀ b, own' = some b → own' = own ∨ b = h.nb + 1) := by
  obtain ⟨i, hi, hs, hz, hb⟩ := int3
  have hl1 : Lst (h.push ⟨[.int .i64 x], 1, true⟩) i.size v L n own := by
    rw [hs]
    exact hl.else (l := []) ⟨by show h.nb ≤ h.nb + 1; omega, fun k hk _ => get_push_old _ (by omega)⟩ (fun b _ hb => by cases hb)
  have hap : appended (h.push ⟨[.int .i64 x], 1, true⟩) i.size (.slice (some ⟨h.nb, 0, none⟩) 1 1) = some (1, [.int .i64 x]) := by
    unfold appended
    dsimp only
    rw [hs, Nat.mul_one, read1 (get_push_new _) (o := 0) rfl]
  obtain ⟨v', h2, own', happ, hl2, ho, he⟩ := app_lst (P := Tryz.prog) (e := 3) hi hz ⟨by rw [hs]; rfl, by omega, by omega⟩ hl1 hap (by rw [hs]; rfl) (by omega) (Nat.le_trans (Nat.mul_le_mul hmax hb) (by decide))
  rw [hs] at hl2
  have he1 : h.nb + 1 ≤ h2.nb := he.1
  refine ⟨v', h2, own', happ, hl2, ?_, ⟨by omega, fun k hk hkl => by rw [he.2 k (by show k < h.nb + 1; omega) hkl, get_push_old _ (by omega)]⟩, ?_, ?_, fun b hb2 => ?_⟩
  · rcases ho with ho | ho
    · exact .inl ho
    · exact .inr ⟨_, ho, by show h.nb ≤ h.nb + 1; omega⟩
  · rcases hl2.2 with ⟨rfl, -⟩ | ⟨b, c, r, rfl, -⟩ <;> rfl
  · rcases hl2.2 with ⟨rfl, -⟩ | ⟨b, c, r, rfl, -⟩ <;> rfl
  · rcases ho with ho | ho
    · exact .inl ho
    · rw [hb2] at ho
      exact .inr (Option.some.inj ho)
theorem put_root_r {h : HP} {M : Nat} {N : List Nd} {R : List Int} {T : List Value} {D K x : Int} {ns rs os : Value} {mp on r oo : Option Nat} {kv : List Value} {oks : List (Option Nat)}
    (hk : MK h M N R [] T D K ns rs os mp on r oo kv oks) (hmax : R.length + 1 ≤ 5864062014805) :
    CallR Tryz.prog 63 [.pointer (some ⟨M, 0, none⟩), .int .i64 x] h (fun _ h' => ∃ rs' r', MK h' M N (R ++ [x]) [] T D K ns rs' os mp on r' oo kv oks ∧ Else h h' (M :: r.toList) ∧ (r' = r ∨ ∃ b, r' = some b ∧ h.nb ≤ b)) := by
  have hg := hk.cells
  have hrd : h.read M 1 1 = some [rs] := read1 hg rfl
  have hrM : r ≠ some M := fun e => by
    have := (List.nodup_cons.1 hk.apart).1
    exact this (by simp [e])
  obtain ⟨rs', h2, r', happ, hl2, ho, he, hcell, hcv, hob⟩ := app_int x hk.roots hmax
  obtain ⟨i26, hi26, hs26⟩ := size26
  have hg2 : h2.get M = some ⟨[ns, rs, os, .map mp, .int .i64 D, .int .i64 K], 1, true⟩ := by
    rw [he.2 M (get_lt hg) (by simpa using hrM)]
    exact hg
  have hwr : h2.write M 1 [rs'] = some (h2.put M ⟨[ns, rs', os, .map mp, .int .i64 D, .int .i64 K], 1, true⟩) := write1 hg2 (by simp) rs'
  refine CallR.of_body1 Tryz.func63 (by kernel_rfl) rfl fun Q hQ => ?_
  show CodeR _ _ ([.pointer (some ⟨M, 0, none⟩), .int .i64 x] ++ List.replicate 42 undef) h _
  simp only [List.replicate, List.cons_append, List.nil_append]
  refine CodeR.seq (CodeR.seq (CodeR.region ?_))
  obtain ⟨i55, hi55, hs55⟩ := size55
  obtain ⟨i28, hi28, hs28⟩ := size28
  simp [OpR, xwant, lightK, lop, evl, flat, flat0, putT, thenR, List.range, List.range.loop, Tryz.underlying60, Tryz.underlying55, Tryz.underlying26, hi26, hs26, hi55, hs55, aggD, isLen, isMM, callAt, isApp, isFn, evls]
  refine (size_r (off := 2) hg rfl hk.opn).mono ?_
  rintro u h' ⟨rfl, rfl⟩
  simp only [nilEq_int]
  rw [lp_eql (k := .i64) (a := 0) (b := 0) rfl rfl]
  simp [OpR]
  refine CodeR.cond (b := true) (by simp [evl]) ?_
  simp only [if_true]
  refine CodeR.seq (CodeR.region ?_)
  simp [OpR, xwant, lightK, lop, evl, flat, flat0, putT, thenR, List.range, List.range.loop, Tryz.underlying60, Tryz.underlying28, Tryz.underlying55, Tryz.underlying26, hi26, hs26, hi55, hs55, hi28, hs28, aggD, isLen, isMM, callAt, isApp, isFn, evls, hrd, build1]
  rw [hop_app (vx := rs) (vy := .slice (some ⟨h'.nb, 0, none⟩) 1 1) Tryz.underlying26 Tryz.underlying26 rfl rfl, happ]
  dsimp only
  rw [hop_store (b := M) (off := 1) (v := rs') hi26 rfl rfl hcv (by rw [hs26]; rfl) (by simp [hcell]) hwr]
  dsimp only
  refine CodeR.ret ?_
  simp only [thenR]
  have hE : Else h' (h2.put M ⟨[ns, rs', os, .map mp, .int .i64 D, .int .i64 K], 1, true⟩) (M :: r.toList) := ⟨he.1, fun k hk2 hkl => by
    simp only [List.mem_cons, not_or] at hkl
    rw [get_put_ne hg2 _ hkl.1]
    exact he.2 k hk2 hkl.2⟩
  refine hQ _ _ _ [] (.inr rfl) rfl (.inr ⟨by simp, rfl, rs', r', hk.root (get_put_same hg2 _) ?_ hE ho, hE, ho⟩)
  have hl3 : Lst h2 1 rs' (ints (R ++ [x])) (R.length + 1) r' := by
    have : ints (R ++ [x]) = ints R ++ [.int .i64 x] := by simp [ints]
    rw [this]
    exact hl2
  refine hl3.else (l := [M]) ⟨Nat.le_refl _, fun k hk2 hkl => get_put_ne hg2 _ (by simpa using hkl)⟩ fun b hb hm => ?_
  simp at hm
  subst hm
  rcases ho with ho | ⟨b2, ho, hb2⟩
  · exact hrM (ho ▸ hb)
  · rw [hb] at ho
    have := get_lt hg
    have e2 := Option.some.inj ho
    omega
end Go.Proofs.YteeanpfhngoobaaGreat.Xk
set_option maxRecDepth 100000
namespace Go.Proofs.YteeanpfhngoobaaGreat.Xk
open Go.RowKit

theorem nodeCells_set : ∀ (N : List Nd) (kv : List Value) (i : Nat) (x : Nd) (v : Value) (l : List Int) (v' : Value), N[i]? = some x → kv[i]? = some v → nodeCells (N.set i { x with kids := l }) (kv.set i v') = (nodeCells N kv).set (i * 5 + 3) v'
  | [], _, i, x, v, l, v', hx, _ => by simp at hx
  | y :: N, [], i, x, v, l, v', _, hv => by simp at hv
  | y :: N, z :: kv, 0, x, v, l, v', hx, hv => by
    simp at hx hv
    subst hx
    subst hv
    rfl
  | y :: N, z :: kv, i + 1, x, v, l, v', hx, hv => by
    have := nodeCells_set N kv i x v l v' (by simpa using hx) (by simpa using hv)
    simp only [List.set_cons_succ, nodeCells, this]
    rw [List.set_append_right _ _ (by simp; omega)]
    congr 2
    simp
    omega
theorem own_split {oks : List (Option Nat)} {i : Nat} {o o' : Option Nat} (h : oks[i]? = some o) : ∃ A B : List Nat, oks.flatMap (·.toList) = A ++ (o.toList ++ B) ∧ (oks.set i o').flatMap (·.toList) = A ++ (o'.toList ++ B) ∧ ∀ j p b, j ≠ i → oks[j]? = some p → p = some b → b ∈ A ++ B := by
  have hlt := (List.getElem?_eq_some_iff.1 h).1
  have ho := (List.getElem?_eq_some_iff.1 h).2
  refine ⟨(oks.take i).flatMap (·.toList), (oks.drop (i + 1)).flatMap (·.toList), ?_, ?_, fun j p b hj hp hb => ?_⟩
  · conv => lhs; rw [← List.take_append_drop i oks, List.drop_eq_getElem_cons hlt, ho]
    simp
  · rw [List.set_eq_take_append_cons_drop, if_pos hlt]
    simp
  · subst hb
    rw [List.mem_append]
    by_cases hji : j < i
    · exact .inl (List.mem_flatMap.2 ⟨some b, List.mem_of_getElem? (i := j) (by rw [List.getElem?_take_of_lt hji]; exact hp), by simp⟩)
    · exact .inr (List.mem_flatMap.2 ⟨some b, List.mem_of_getElem? (i := j - (i + 1)) (by rw [List.getElem?_drop, show i + 1 + (j - (i + 1)) = j by omega]; exact hp), by simp⟩)
section
variable {h h' : HP} {M : Nat} {N : List Nd} {R O : List Int} {T : List Value} {D K : Int} {ns rs os : Value} {mp on r oo : Option Nat} {kv : List Value} {oks : List (Option Nat)}
/-- A kid more. -/
theorem MK.kid (hk : MK h M N R O T D K ns rs os mp on r oo kv oks) {i b : Nat} {x : Nd} {v v' : Value} {o o' : Option Nat} {n : Int} {rr : List Value} (hx : N[i]? = some x) (hv : kv[i]? = some v) (ho : oks[i]? = some o) (hon : on = some b) (hgb : h.get b = some ⟨rr, 5, true⟩)
    (hb' : h'.get b = some ⟨rr.set (i * 5 + 3) v', 5, true⟩) (hl : Lst h' 1 v' (ints (x.kids ++ [n])) (x.kids.length + 1) o') (he : Else h h' (b :: o.toList)) (hr : o' = o ∨ ∃ c, o' = some c ∧ h.nb ≤ c) :
    MK h' M (N.set i { x with kids := x.kids ++ [n] }) R O T D K ns rs os mp on r oo (kv.set i v') (oks.set i o') := by
  subst hon
  obtain ⟨A, B, e1, e2, e3⟩ := own_split (o' := o') ho
  have ap := hk.apart
  have lt := hk.lt
  unfold ownL at ap lt
  rw [e1] at ap lt
  obtain ⟨a1, a2⟩ := List.nodup_cons.1 ap
  obtain ⟨-, b2, b3⟩ := List.nodup_append.1 a2
  have b3' := fun c hc => b3 b (by simp) c hc
  obtain ⟨-, c2, c3⟩ := List.nodup_append.1 b2
  obtain ⟨-, d2, d3⟩ := List.nodup_append.1 c2
  obtain ⟨-, f2, f3⟩ := List.nodup_append.1 d2
  obtain ⟨-, g2, g3⟩ := List.nodup_append.1 f2
  obtain ⟨-, k2, k3⟩ := List.nodup_append.1 g2
  have no : ∀ c, (c = M ∨ c ∈ r.toList ∨ c ∈ oo.toList ∨ c ∈ mp.toList ∨ c ∈ A ++ B) → c ∉ b :: o.toList := fun c hc hm => by
    rcases List.mem_cons.1 hm with rfl | hm
    · rcases hc with rfl | hc | hc | hc | hc
      · exact a1 (by simp)
      · exact b3' _ (by simp [hc]) rfl
      · exact b3' _ (by simp [hc]) rfl
      · exact b3' _ (by simp [hc]) rfl
      · exact b3' _ (by simp at hc; simp; rcases hc with hc | hc <;> simp [hc]) rfl
    · rcases hc with rfl | hc | hc | hc | hc
      · exact a1 (by simp [hm])
      · exact c3 c hc c (by simp [hm]) rfl
      · exact d3 c hc c (by simp [hm]) rfl
      · exact f3 c hc c (by simp [hm]) rfl
      · rcases List.mem_append.1 hc with hc | hc
        · exact g3 c hc c (by simp [hm]) rfl
        · exact k3 c hm c hc rfl
  have hlen := nodeCells_len N kv hk.lk
  have hi := (List.getElem?_eq_some_iff.1 hx).1
  refine { cells := (he.2 M (get_lt hk.cells) (no M (.inl rfl))).trans hk.cells, nodes := ?_, roots := hk.roots.else he fun c hc => no c (by simp [hc]), opn := hk.opn.else he fun c hc => no c (by simp [hc]), names := mread_else hk.names he fun c hc => no c (by simp [hc]), lk := by simp [hk.lk], lo := by simp [hk.lo], kids := fun j y u p h1 h2 h3 => ?_, apart := ?_ }
  · rw [nodeCells_set N kv i x v _ v' hx hv]
    obtain ⟨q1, q2⟩ := hk.nodes
    refine ⟨by simpa using q1, ?_⟩
    simp only [List.length_set]
    rcases q2 with ⟨-, -, q⟩ | ⟨b2, c, r2, q3, q4, q5, q6, q7, q8⟩
    · cases q
    · cases q4
      rw [hgb] at q5
      cases q5
      refine .inr ⟨b, c, _, q3, rfl, hb', ?_, q7, by simpa using q8⟩
      rw [List.take_set, q6]
  · by_cases hj : j = i
    · subst hj
      rw [List.getElem?_set_self hi] at h1
      rw [List.getElem?_set_self (by have := hk.lk; omega)] at h2
      rw [List.getElem?_set_self (by have := hk.lo; omega)] at h3
      cases h1; cases h2; cases h3
      simpa using hl
    · rw [List.getElem?_set_ne (fun e => hj e.symm)] at h1 h2 h3
      exact (hk.kids j y u p h1 h2 h3).else he fun c hc => no c (.inr (.inr (.inr (.inr (e3 j p c hj h3 hc)))))
  · unfold ownL
    rw [e2]
    have := nodup_turn (A := M :: ((some b).toList ++ (r.toList ++ (oo.toList ++ (mp.toList ++ A))))) (X := B) (r := o) (r' := o') (n := h.nb) (by simpa [List.append_assoc] using ap) (fun c hc => lt c (by simpa [List.append_assoc] using hc)) hr
    simpa [List.append_assoc] using this
end
end Go.Proofs.YteeanpfhngoobaaGreat.Xk
set_option maxRecDepth 100000
namespace Go.Proofs.YteeanpfhngoobaaGreat.Xk
open Go.RowKit

theorem size51k : ∃ i, Tryz.prog.info? 51 = some i ∧ i.size = 5 := info_size (by kernel_rfl)
theorem size25 : ∃ i, Tryz.prog.info? 25 = some i ∧ i.size = 1 := info_size (by kernel_rfl)
theorem ag_two {h : HP} {b o b2 o2 : Nat} {v v2 : Value} (hr : h.read b o 1 = some [v]) (hs : sameC v v = true) (hr2 : h.read b2 o2 1 = some [v2]) (hs2 : sameC v2 v2 = true) : AG [(b, o), (b2, o2)] h h := fun p hp => by
  rcases List.mem_cons.1 hp with rfl | hp
  · exact ag_one hr hs _ (by simp)
  · exact ag_one hr2 hs2 _ (by simpa using hp)
theorem put_kid_r {h : HP} {M : Nat} {N : List Nd} {R O : List Int} {T : List Value} {D K n : Int} {t : Nat} {x : Nd} {ns rs os : Value} {mp on r oo : Option Nat} {kv : List Value} {oks : List (Option Nat)}
    (hk : MK h M N R (O ++ [(t : Int)]) T D K ns rs os mp on r oo kv oks) (hx : N[t]? = some x) (hmax : x.kids.length + 1 ≤ 5864062014805) (hO : O.length + 1 ≤ 5864062014805) :
    CallR Tryz.prog 63 [.pointer (some ⟨M, 0, none⟩), .int .i64 n] h (fun _ h' => ∃ kv' oks', MK h' M (N.set t { x with kids := x.kids ++ [n] }) R (O ++ [(t : Int)]) T D K ns rs os mp on r oo kv' oks' ∧ Else h h' (ownL M on r oo mp oks) ∧ ∀ b ∈ ownL M on r oo mp oks', b ∈ ownL M on r oo mp oks ∨ h.nb ≤ b) := by
  have hg := hk.cells
  have ht := (List.getElem?_eq_some_iff.1 hx).1
  have hrd : h.read M 0 1 = some [ns] := read1 hg rfl
  obtain ⟨v, hv⟩ : ∃ v, kv[t]? = some v := ⟨_, List.getElem?_eq_getElem (by have := hk.lk; omega)⟩
  obtain ⟨o, ho⟩ : ∃ o, oks[t]? = some o := ⟨_, List.getElem?_eq_getElem (by have := hk.lo; omega)⟩
  have hkid := hk.kids t x v o hx hv ho
  obtain ⟨q1, q2⟩ := hk.nodes
  rcases q2 with ⟨-, q, -⟩ | ⟨b, c, rr, rfl, rfl, hgb, hrr, hnc, hcl⟩
  · omega
  have hlen := nodeCells_len N kv hk.lk
  have hcell : rr[t * 5 + 3]? = some v := by
    have := nodeCells_at N kv t x v hx hv 3 v rfl
    rw [← hrr, List.getElem?_take_of_lt (by omega)] at this
    exact this
  have hrk := read1 hgb hcell
  obtain ⟨v', h2, o', happ, hl2, hor, he, hisc, hcv, hob⟩ := app_int n hkid hmax
  have hopn := hk.opn
  obtain ⟨p1, p2⟩ := hk.opn
  have hOl : (O ++ [(t : Int)]).length = O.length + 1 := by simp
  rcases p2 with ⟨-, q, -⟩ | ⟨bo, co, ro, rfl, rfl, hgo, hro, hnco, hclo⟩
  · omega
  have htop : ro[O.length]? = some (.int .i64 (t : Int)) := by
    have : (ro.take ((O ++ [(t : Int)]).length * 1))[O.length]? = some (.int .i64 (t : Int)) := by
      rw [hro]
      simp [ints]
    rwa [List.getElem?_take_of_lt (by omega)] at this
  have hrt := read1 hgo htop
  obtain ⟨i55, hi55, hs55⟩ := size55
  obtain ⟨i28, hi28, hs28⟩ := size28
  obtain ⟨i26, hi26, hs26⟩ := size26
  obtain ⟨i25, hi25, hs25⟩ := size25
  obtain ⟨i51, hi51, hs51⟩ := size51k
  obtain ⟨i, hi, hs, hz, hb⟩ := int3
  refine CallR.of_body1 Tryz.func63 (by kernel_rfl) rfl fun Q hQ => ?_
  show CodeR _ _ ([.pointer (some ⟨M, 0, none⟩), .int .i64 n] ++ List.replicate 42 undef) h _
  simp only [List.replicate, List.cons_append, List.nil_append]
  refine CodeR.seq (CodeR.seq (CodeR.region ?_))
  simp [OpR, xwant, lightK, lop, evl, flat, flat0, putT, thenR, List.range, List.range.loop, Tryz.underlying60, Tryz.underlying55, Tryz.underlying26, hi26, hs26, hi55, hs55, aggD, isLen, isMM, callAt, isApp, isFn, evls]
  refine (size_r (off := 2) hg rfl hopn).mono ?_
  rintro u h' ⟨rfl, rfl⟩
  simp only [nilEq_int]
  rw [lp_eql (k := .i64) (a := ((O ++ [(t : Int)]).length : Nat)) (b := 0) rfl rfl]
  simp [OpR]
  refine CodeR.cond (b := false) (by simp [evl]; omega) ?_
  simp only [Bool.false_eq_true, if_false]
  refine CodeR.skip ?_
  simp only [thenR]
  refine CodeR.seq (CodeR.drawn fx_any (List.range 13) [] [(M, 0), (bo, O.length)] (by kernel_rfl) (ag_two hrd sameC_slice hrt (by simp [sameC])) ?_)
  simp [OpR, xwant, lightK, lop, evl, flat, flat0, putT, thenR, List.range, List.range.loop, Tryz.underlying60, Tryz.underlying28, Tryz.underlying55, Tryz.underlying25, Tryz.underlying26, hi26, hs26, hi55, hs55, hi25, hs25, hi28, hs28, aggD, isLen, isMM, callAt, isApp, isFn, evls, hrd]
  refine (top_r (off := 2) hg rfl hopn (by omega) (by omega)).mono ?_
  rintro u h' ⟨bo', hbo, rfl, rfl⟩
  cases hbo
  have e0 : (O ++ [(t : Int)]).length - 1 = O.length := by simp
  simp only [e0]
  refine ⟨ag_two hrd sameC_slice hrt (by simp [sameC]), ?_⟩
  simp [hi, hs, hrt, hi51, hs51, ht]
  have hbo : o ≠ some b := fun e => by
    have h1 := (List.nodup_append.1 (List.nodup_cons.1 hk.apart).2).2.2 b (by simp) b (by
      have := ok_mem ho e
      simp only [List.mem_append]
      exact .inr (.inr (.inr this)))
    exact h1 rfl
  have hgb2 : h2.get b = some ⟨rr, 5, true⟩ := by
    rw [he.2 b (get_lt hgb) (by simpa using hbo)]
    exact hgb
  have hwr : h2.write b (t * 5 + 3) [v'] = some (h2.put b ⟨rr.set (t * 5 + 3) v', 5, true⟩) := by
    refine write1 hgb2 ?_ v'
    have := (List.getElem?_eq_some_iff.1 hcell).1
    omega
  refine CodeR.region ?_
  simp [OpR, xwant, lightK, lop, evl, flat, flat0, putT, thenR, List.range, List.range.loop, Tryz.underlying51, Tryz.underlying26, hi26, hs26, aggD, isLen, isMM, callAt, isApp, isFn, evls, hrk, build1]
  rw [hop_app (vx := v) (vy := .slice (some ⟨h'.nb, 0, none⟩) 1 1) Tryz.underlying26 Tryz.underlying26 rfl rfl, happ]
  dsimp only
  rw [hop_store (b := b) (off := t * 5 + 3) (v := v') hi26 rfl rfl hcv (by rw [hs26]; rfl) (by simp [hisc]) hwr]
  dsimp only
  have hE : Else h' (h2.put b ⟨rr.set (t * 5 + 3) v', 5, true⟩) (b :: o.toList) := ⟨he.1, fun k hk2 hkl => by
    simp only [List.mem_cons, not_or] at hkl
    rw [get_put_ne hgb2 _ hkl.1]
    exact he.2 k hk2 hkl.2⟩
  have hl3 : Lst h2 1 v' (ints (x.kids ++ [n])) (x.kids.length + 1) o' := by
    have : ints (x.kids ++ [n]) = ints x.kids ++ [.int .i64 n] := by simp [ints]
    rw [this]
    exact hl2
  have hl4 : Lst (h2.put b ⟨rr.set (t * 5 + 3) v', 5, true⟩) 1 v' (ints (x.kids ++ [n])) (x.kids.length + 1) o' := hl3.else (l := [b]) ⟨Nat.le_refl _, fun k hk2 hkl => get_put_ne hgb2 _ (by simpa using hkl)⟩ fun b2 hb2 hm => by
    simp at hm
    subst hm
    rcases hor with hor | ⟨b3, hor, hb3⟩
    · exact hbo (hor ▸ hb2)
    · rw [hb2] at hor
      have := get_lt hgb
      have e2 := Option.some.inj hor
      omega
  have hK := hk.kid hx hv ho rfl hgb (get_put_same hgb2 _) hl4 hE hor
  refine hQ _ _ _ [] (.inl rfl) rfl (.inr ⟨by simp, rfl, _, _, hK, ⟨hE.1, fun k hk2 hkl => hE.2 k hk2 fun hm => hkl ?_⟩, fun b2 hb2 => ?_⟩)
  · unfold ownL
    rcases List.mem_cons.1 hm with rfl | hm
    · simp
    · have := ok_mem ho (show o = some k by simpa using hm)
      simp only [List.mem_cons, List.mem_append]
      exact .inr (.inr (.inr (.inr (.inr this))))
  · unfold ownL at hb2 ⊢
    simp only [List.mem_cons, List.mem_append] at hb2 ⊢
    rcases hb2 with hb2 | hb2 | hb2 | hb2 | hb2 | hb2
    · exact .inl (.inl hb2)
    · exact .inl (.inr (.inl hb2))
    · exact .inl (.inr (.inr (.inl hb2)))
    · exact .inl (.inr (.inr (.inr (.inl hb2))))
    · exact .inl (.inr (.inr (.inr (.inr (.inl hb2)))))
    · obtain ⟨p, hp, hb5⟩ := List.mem_flatMap.1 hb2
      rcases List.mem_or_eq_of_mem_set hp with hp | rfl
      · exact .inl (.inr (.inr (.inr (.inr (.inr (List.mem_flatMap.2 ⟨p, hp, hb5⟩))))))
      · have hb2' : p = some b2 := by simpa using hb5
        rcases hor with hor | ⟨b3, hor, hb3⟩
        · exact .inl (.inr (.inr (.inr (.inr (.inr (ok_mem ho (hor ▸ hb2')))))))
        · rw [hb2'] at hor
          exact .inr (by have := Option.some.inj hor; omega)
end Go.Proofs.YteeanpfhngoobaaGreat.Xk
