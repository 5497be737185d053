/- put, as one. -/
import Derived.Test.YteeanpfhngoobaaGreatZXtb
set_option linter.all false
set_option maxRecDepth 100000
namespace Go.Proofs.YteeanpfhngoobaaGreat.Xk
open Go.RowKit

/-- What lies below n stays as it is. -/
def Keep (n : Nat) (h h' : HP) : Prop := h.nb ≤ h'.nb ∧ ∀ k, k < n → h'.get k = h.get k
theorem Keep.refl (n : Nat) (h : HP) : Keep n h h := ⟨Nat.le_refl _, fun _ _ => rfl⟩
theorem Keep.trans {n : Nat} {h h' h'' : HP} (a : Keep n h h') (b : Keep n h' h'') : Keep n h h'' := ⟨by have := a.1; have := b.1; omega, fun k hk => (b.2 k hk).trans (a.2 k hk)⟩
theorem Keep.of_else {n : Nat} {h h' : HP} {l : List Nat} (he : Else h h' l) (hl : ∀ b ∈ l, n ≤ b) (hn : n ≤ h.nb) : Keep n h h' := ⟨he.1, fun k hk => he.2 k (by omega) fun hm => by have := hl k hm; omega⟩
section
variable {h h' : HP} {M : Nat} {N : List Nd} {R O : List Int} {T : List Value} {D K : Int} {ns rs os : Value} {mp on r oo : Option Nat} {kv : List Value} {oks : List (Option Nat)}
theorem MK.else (hk : MK h M N R O T D K ns rs os mp on r oo kv oks) {l : List Nat} (he : Else h h' l) (hl : ∀ b ∈ ownL M on r oo mp oks, b ∉ l) : MK h' M N R O T D K ns rs os mp on r oo kv oks := by
  have no : ∀ b, (b = M ∨ b ∈ on.toList ∨ b ∈ r.toList ∨ b ∈ oo.toList ∨ b ∈ mp.toList ∨ b ∈ oks.flatMap (·.toList)) → b ∉ l := fun b hb => hl b (by
    unfold ownL
    simp only [List.mem_cons, List.mem_append]
    exact hb)
  exact { cells := (he.2 M (get_lt hk.cells) (no M (.inl rfl))).trans hk.cells, nodes := hk.nodes.else he fun b hb => no b (by simp [hb]), roots := hk.roots.else he fun b hb => no b (by simp [hb]), opn := hk.opn.else he fun b hb => no b (by simp [hb]), names := mread_else hk.names he fun b hb => no b (by simp [hb]), lk := hk.lk, lo := hk.lo, kids := fun i x v o h1 h2 h3 => (hk.kids i x v o h1 h2 h3).else he fun b hb => no b (.inr (.inr (.inr (.inr (.inr (ok_mem h3 hb)))))), apart := hk.apart }
end
def nums (O : List Nat) : List Int := O.map fun (t : Nat) => (t : Int)
theorem nums_len (O : List Nat) : (nums O).length = O.length := by simp [nums]
/-- The maker, wherever its lists lie: all above n. -/
structure MS (h : HP) (M n : Nat) (N : List Nd) (R : List Int) (O : List Nat) (T : List Value) (D K : Int) : Prop where
  le : n ≤ h.nb
  ex : ∃ ns rs os mp on r oo kv oks, MK h M N R (nums O) T D K ns rs os mp on r oo kv oks ∧ ∀ b ∈ ownL M on r oo mp oks, n ≤ b
theorem MS.push {h : HP} {M n : Nat} {N : List Nd} {R : List Int} {O : List Nat} {T : List Value} {D K : Int} (hs : MS h M n N R O T D K) (x : RB) : MS (h.push x) M n N R O T D K := by
  obtain ⟨h1, ns, rs, os, mp, on, r, oo, kv, oks, hk, hl⟩ := hs
  exact ⟨by show n ≤ h.nb + 1; omega, ns, rs, os, mp, on, r, oo, kv, oks, hk.else (l := []) ⟨by show h.nb ≤ h.nb + 1; omega, fun k hk _ => get_push_old _ (by omega)⟩ (fun _ _ hm => by cases hm), hl⟩
def kidN (N : List Nd) (t : Nat) (x : Int) : List Nd := match N[t]? with
  | some y => N.set t { y with kids := y.kids ++ [x] }
  | none => N
def putN (N : List Nd) (R : List Int) (O : List Nat) (x : Int) : List Nd × List Int := match O.getLast? with
  | none => (N, R ++ [x])
  | some t => (kidN N t x, R)
theorem kidN_len (N : List Nd) (t : Nat) (x : Int) : (kidN N t x).length = N.length := by
  unfold kidN
  split
  · simp
  · rfl
theorem putN_len (N : List Nd) (R : List Int) (O : List Nat) (x : Int) : (putN N R O x).1.length = N.length := by
  unfold putN
  split
  · rfl
  · exact kidN_len _ _ _
/-- How great all is, at most. -/
structure Bd (N : List Nd) (R : List Int) (O : List Nat) (i : Nat) : Prop where
  r : R.length ≤ i
  k : ∀ y ∈ N, y.kids.length ≤ i
  o : O.length ≤ i
  n : N.length ≤ i
  t : ∀ t ∈ O, t < N.length
theorem Bd.more {N : List Nd} {R : List Int} {O : List Nat} {i j : Nat} (hb : Bd N R O i) (hij : i ≤ j) : Bd N R O j := ⟨by have := hb.r; omega, fun y hy => by have := hb.k y hy; omega, by have := hb.o; omega, by have := hb.n; omega, hb.t⟩
theorem Bd.put {N : List Nd} {R : List Int} {O : List Nat} {i : Nat} (hb : Bd N R O i) (x : Int) : Bd (putN N R O x).1 (putN N R O x).2 O (i + 1) := by
  refine ⟨?_, fun y hy => ?_, by have := hb.o; omega, by rw [putN_len]; have := hb.n; omega, fun t ht => by rw [putN_len]; exact hb.t t ht⟩
  · unfold putN
    split
    · simp; exact hb.r
    · have := hb.r; dsimp only; omega
  · unfold putN at hy
    split at hy
    · have := hb.k y hy; omega
    · unfold kidN at hy
      dsimp only at hy
      split at hy
      · rename_i z hz
        rcases List.mem_or_eq_of_mem_set hy with hy | rfl
        · have := hb.k y hy; omega
        · have := hb.k z (List.mem_of_getElem? hz)
          simp; omega
      · have := hb.k y hy; omega
theorem put_r {h : HP} {M n : Nat} {N : List Nd} {R : List Int} {O : List Nat} {T : List Value} {D K : Int} {i : Nat} (hs : MS h M n N R O T D K) (hb : Bd N R O i) (hi : i + 1 ≤ 1048576) (x : Int) :
    CallR Tryz.prog 63 [.pointer (some ⟨M, 0, none⟩), .int .i64 x] h (fun _ h' => Keep n h h' ∧ MS h' M n (putN N R O x).1 (putN N R O x).2 O T D K) := by
  obtain ⟨hle, ns, rs, os, mp, on, r, oo, kv, oks, hk, hl⟩ := hs
  have hbr := hb.r
  have hbo := hb.o
  cases hO : O.getLast? with
  | none =>
    have hO' : O = [] := List.getLast?_eq_none_iff.1 hO
    subst hO'
    refine (put_root_r (x := x) hk (by omega)).mono fun v h' ⟨rs', r', hk', he, hr⟩ => ?_
    have hlr : ∀ b ∈ M :: r.toList, n ≤ b := fun b hb => hl b (by
      unfold ownL
      simp only [List.mem_cons, List.mem_append] at hb ⊢
      rcases hb with hb | hb
      · exact .inl hb
      · exact .inr (.inr (.inl hb)))
    refine ⟨Keep.of_else he hlr hle, by have := he.1; omega, ns, rs', os, mp, on, r', oo, kv, oks, hk', fun b hb => ?_⟩
    unfold ownL at hb hl
    simp only [List.mem_cons, List.mem_append] at hb hl
    rcases hb with hb | hb | hb | hb
    · exact hl b (.inl hb)
    · exact hl b (.inr (.inl hb))
    · rcases hr with rfl | ⟨c, rfl, hc⟩
      · exact hl b (.inr (.inr (.inl hb)))
      · have : b = c := by simpa using hb
        omega
    · exact hl b (.inr (.inr (.inr hb)))
  | some t =>
    obtain ⟨O', rfl⟩ := List.getLast?_eq_some_iff.1 hO
    have ht := hb.t t (by simp)
    obtain ⟨y, hy⟩ : ∃ y, N[t]? = some y := ⟨_, List.getElem?_eq_getElem ht⟩
    have hky := hb.k y (List.mem_of_getElem? hy)
    have e : nums (O' ++ [t]) = nums O' ++ [(t : Int)] := by simp [nums]
    rw [e] at hk
    refine (put_kid_r (n := x) hk hy (by omega) (by rw [nums_len]; simp at hbo; omega)).mono fun v h' ⟨kv', oks', hk', he, hnew⟩ => ?_
    have hp : putN N R (O' ++ [t]) x = (N.set t { y with kids := y.kids ++ [x] }, R) := by
      unfold putN kidN
      rw [hO]
      dsimp only
      rw [hy]
    rw [hp]
    refine ⟨Keep.of_else he hl hle, by have := he.1; omega, ns, rs, os, mp, on, r, oo, kv', oks', by rw [e]; exact hk', fun b hb => ?_⟩
    rcases hnew b hb with h1 | h1
    · exact hl b h1
    · omega
end Go.Proofs.YteeanpfhngoobaaGreat.Xk
set_option maxRecDepth 100000
namespace Go.Proofs.YteeanpfhngoobaaGreat.Xk
open Go.RowKit

section
variable {h h' : HP} {M : Nat} {N : List Nd} {R O : List Int} {T : List Value} {D K : Int} {ns rs os : Value} {mp on r oo : Option Nat} {kv : List Value} {oks : List (Option Nat)}
/-- A node more. -/
theorem MK.node (hk : MK h M N R O T D K ns rs os mp on r oo kv oks) {ns' : Value} {on' : Option Nat} {x : Nd} (hx : x.kids = []) (hc : h'.get M = some ⟨[ns', rs, os, .map mp, .int .i64 D, .int .i64 K], 1, true⟩)
    (hl : Lst h' 5 ns' (nodeCells N kv ++ [.int .i64 x.k, .string x.tg, .string x.tx, .slice none 0 0, .bool x.pl]) (N.length + 1) on')
    (he : Else h h' (M :: on.toList)) (hr : on' = on ∨ ∃ b, on' = some b ∧ h.nb ≤ b) : MK h' M (N ++ [x]) R O T D K ns' rs os mp on' r oo (kv ++ [.slice none 0 0]) (oks ++ [none]) := by
  obtain ⟨a1, a2⟩ := List.nodup_cons.1 hk.apart
  obtain ⟨b1, b2, b3⟩ := List.nodup_append.1 a2
  have rest : ∀ b, b ∈ r.toList ++ (oo.toList ++ (mp.toList ++ oks.flatMap (·.toList))) → b ∉ M :: on.toList := fun b hb hm => by
    rcases List.mem_cons.1 hm with rfl | hm
    · exact a1 (List.mem_append_right _ hb)
    · exact b3 b hm b hb rfl
  have ef : (oks ++ [none]).flatMap (fun o : Option Nat => o.toList) = oks.flatMap (·.toList) := by simp
  refine { cells := hc, nodes := ?_, roots := hk.roots.else he fun b hb => rest b (by simp [hb]), opn := hk.opn.else he fun b hb => rest b (by simp [hb]), names := mread_else hk.names he fun b hb => rest b (by simp [hb]), lk := by simp [hk.lk], lo := by simp [hk.lo], kids := fun i y v o h1 h2 h3 => ?_, apart := ?_ }
  · rw [nodeCells_snoc N kv x (.slice none 0 0) hk.lk, List.length_append]
    exact hl
  · by_cases hi : i < N.length
    · rw [List.getElem?_append_left hi] at h1
      rw [List.getElem?_append_left (by rw [hk.lk]; exact hi)] at h2
      rw [List.getElem?_append_left (by rw [hk.lo]; exact hi)] at h3
      exact (hk.kids i y v o h1 h2 h3).else he fun b hb => rest b (List.mem_append_right _ (List.mem_append_right _ (List.mem_append_right _ (ok_mem h3 hb))))
    · have hlt := (List.getElem?_eq_some_iff.1 h1).1
      have hi' : i = N.length := by simp at hlt; omega
      subst hi'
      rw [List.getElem?_append_right (Nat.le_refl _), Nat.sub_self] at h1
      rw [List.getElem?_append_right (by rw [hk.lk]; exact Nat.le_refl _), hk.lk, Nat.sub_self] at h2
      rw [List.getElem?_append_right (by rw [hk.lo]; exact Nat.le_refl _), hk.lo, Nat.sub_self] at h3
      cases h1; cases h2; cases h3
      rw [hx]
      exact ⟨rfl, .inl ⟨rfl, rfl, rfl⟩⟩
  · unfold ownL
    rw [ef]
    exact nodup_turn (A := [M]) hk.apart hk.lt hr
/-- A name more. -/
theorem MK.name (hk : MK h M N R O T D K ns rs os mp on r oo kv oks) {q : Nat} {T' : List Value} (hc : h'.get M = some ⟨[ns, rs, os, .map (some q), .int .i64 D, .int .i64 K], 1, true⟩) (hm : h'.get q = some ⟨T', 0, false⟩)
    (he : Else h h' (M :: mp.toList)) (hr : some q = mp ∨ ∃ b, some q = some b ∧ h.nb ≤ b) : MK h' M N R O T' D K ns rs os (some q) on r oo kv oks := by
  obtain ⟨a1, a2⟩ := List.nodup_cons.1 hk.apart
  obtain ⟨b1, b2, b3⟩ := List.nodup_append.1 a2
  obtain ⟨c1, c2, c3⟩ := List.nodup_append.1 b2
  obtain ⟨d1, d2, d3⟩ := List.nodup_append.1 c2
  obtain ⟨e1, e2, e3⟩ := List.nodup_append.1 d2
  have rest : ∀ b, (b ∈ on.toList ∨ b ∈ r.toList ∨ b ∈ oo.toList ∨ b ∈ oks.flatMap (·.toList)) → b ∉ M :: mp.toList := fun b hb hm => by
    rcases List.mem_cons.1 hm with rfl | hm
    · exact a1 (by simp at hb ⊢; rcases hb with hb | hb | hb | hb <;> simp [hb])
    · rcases hb with hb | hb | hb | hb
      · exact b3 b hb b (by simp at hm ⊢; simp [hm]) rfl
      · exact c3 b hb b (by simp at hm ⊢; simp [hm]) rfl
      · exact d3 b hb b (by simp at hm ⊢; simp [hm]) rfl
      · exact e3 b hm b hb rfl
  refine { cells := hc, nodes := hk.nodes.else he fun b hb => rest b (by simp [hb]), roots := hk.roots.else he fun b hb => rest b (by simp [hb]), opn := hk.opn.else he fun b hb => rest b (by simp [hb]), names := mread_get hm, lk := hk.lk, lo := hk.lo, kids := fun i x v o h1 h2 h3 => (hk.kids i x v o h1 h2 h3).else he fun b hb => rest b (.inr (.inr (.inr (ok_mem h3 hb)))), apart := ?_ }
  have := nodup_turn (A := M :: (on.toList ++ (r.toList ++ oo.toList))) (X := oks.flatMap (·.toList)) (r := mp) (r' := some q) (n := h.nb) (by simpa [ownL, List.append_assoc] using hk.apart) (fun c hc => hk.lt c (by simpa [ownL, List.append_assoc] using hc)) hr
  simpa [ownL, List.append_assoc] using this
end
end Go.Proofs.YteeanpfhngoobaaGreat.Xk
set_option maxRecDepth 100000
namespace Go.Proofs.YteeanpfhngoobaaGreat.Xk
open Go.RowKit

section
variable {P : Program} {h : HP} {tm : List Value} {x y : Operand} {t yt type : TypeId} {a b : ByteArray} {dst : Option Tmp} {pos : String} {after : Array Edge} {guard : Option (Nat × Bool)}
theorem lop_bins {op : BinOp} {v : Value} (hx : evl tm x = some (.string a)) (hy : evl tm y = some (.string b)) (hr : pur P (Go.binOp op t (.string a) (.string b)) = some v) (hs : scal v = true) :
    lpure P tm ⟨dst, .binOp op t x y yt, type, pos, after, guard⟩ = some (v, []) := by
  have hr2 : pur P (execOp (pev tm) ⟨dst, .binOp op t x y yt, type, pos, after, guard⟩) = some (.value v) := by
    show pur P ((do eqGuard op t x y (pev tm x) (pev tm y); Go.binOp op t (pev tm x) (pev tm y) : Sem Value) >>= fun v => pure (Next.value v)) = _
    rw [show pev tm x = .string a by simp [pev, hx], show pev tm y = .string b by simp [pev, hy]]
    have : eqGuard op t x y (.string a) (.string b) = pure () := by
      unfold eqGuard
      cases op <;> rfl
    rw [this]
    simp only [pur_bind, pur_pure, Option.bind_some, hr]
  exact lpure_is rfl (by simp [Op.operands, hx, hy, scal]) hr2 hs
theorem lp_neqs (hx : evl tm x = some (.string a)) (hy : evl tm y = some (.string b)) : lpure P tm ⟨dst, .binOp .neq t x y yt, type, pos, after, guard⟩ = some (.bool !(a.toList == b.toList), []) := lop_bins hx hy (by simp [Go.binOp, Op.stringOp, pur_pure]) rfl
theorem lp_eqls (hx : evl tm x = some (.string a)) (hy : evl tm y = some (.string b)) : lpure P tm ⟨dst, .binOp .eql t x y yt, type, pos, after, guard⟩ = some (.bool (a.toList == b.toList), []) := lop_bins hx hy (by simp [Go.binOp, Op.stringOp, pur_pure]) rfl
theorem nilEq_str {op : BinOp} {v : Value} : nilEq P op t (.string a) v = none := by cases v <;> rfl
end
def ndCells (x : Nd) : List Value := [.int .i64 x.k, .string x.tg, .string x.tx, .slice none 0 0, .bool x.pl]
def zeroNd (l : List Value) : Bool := match l with
  | [.int .i64 0, .string a, .string b, .slice none 0 0, .bool false] => a.data.toList.isEmpty && b.data.toList.isEmpty
  | _ => false
theorem zeroNd_is {cs : Array Value} (h : zeroNd cs.toList = true) : cs = #[.int .i64 0, .string ⟨#[]⟩, .string ⟨#[]⟩, .slice none 0 0, .bool false] := by
  apply Array.toList_inj.1
  generalize cs.toList = l at h
  unfold zeroNd at h
  split at h
  · rename_i a b
    simp only [Bool.and_eq_true, List.isEmpty_iff] at h
    have ea : a = ⟨#[]⟩ := ByteArray.ext (Array.toList_inj.1 (by simpa using h.1))
    have eb : b = ⟨#[]⟩ := ByteArray.ext (Array.toList_inj.1 (by simpa using h.2))
    subst ea
    subst eb
    rfl
  · cases h
theorem node51 : ∃ i, Tryz.prog.info? 51 = some i ∧ i.size = 5 ∧ i.zero = some (.agg #[.int .i64 0, .string ⟨#[]⟩, .string ⟨#[]⟩, .slice none 0 0, .bool false]) ∧ i.bytes ≤ 72 := by
  have h : (match Tryz.prog.info? 51 with | some i => i.size == 5 && decide (i.bytes ≤ 72) && (match i.zero with | some (.agg cs) => zeroNd cs.toList | _ => false) | none => false) = true := by kernel_rfl
  split at h
  · rename_i i hi
    simp only [Bool.and_eq_true, beq_iff_eq, decide_eq_true_eq] at h
    obtain ⟨⟨h1, h2⟩, h3⟩ := h
    split at h3
    · rename_i cs hz
      rw [zeroNd_is h3] at hz
      exact ⟨i, hi, h1, hz, h2⟩
    · cases h3
  · cases h
theorem build5 {tm : List Value} {h : HP} {x : Operand} {nd : Nd} {dst : Option Tmp} {type : TypeId} {pos : String} {after : Array Edge} {guard : Option (Nat × Bool)} (hx : evl tm x = some (.agg (ndCells nd).toArray)) :
    hop Tryz.prog noneK tm h ⟨dst, .buildSlice 25 1 #[(0, x)], type, pos, after, guard⟩ = some (.slice (some ⟨h.nb, 0, none⟩) 1 1, h.push ⟨ndCells nd, 5, true⟩) := by
  obtain ⟨i, hi, hs, hz, hb⟩ := node51
  unfold hop
  simp [Tryz.underlying25, evps, hx, ndCells, cellsOf, isCell, hi, hz, hs, Value.cells, flat0, Instr.fill, Array.toList_range, List.range, List.range.loop]
/-- What an append of one node does: the one behind buildSlice. -/
theorem app_node {h : HP} {v : Value} {L : List Value} {n : Nat} {own : Option Nat} (x : Nd) (hl : Lst h 5 v L n own) (hmax : n + 1 ≤ 1048576) :
    ∃ v' h2 own', app Tryz.prog (h.push ⟨ndCells x, 5, true⟩) 51 v (.slice (some ⟨h.nb, 0, none⟩) 1 1) = some (v', h2) ∧ Lst h2 5 v' (L ++ ndCells x) (n + 1) own' ∧ (own' = own ∨ ∃ b, own' = some b ∧ h.nb ≤ b) ∧ Else h h2 own.toList ∧ isCell v' = true ∧ cellsOf v' = some [v'] := by
  obtain ⟨i, hi, hs, hz, hb⟩ := node51
  have hl1 : Lst (h.push ⟨ndCells x, 5, true⟩) i.size v L n own := by
    rw [hs]
    exact hl.else (l := []) ⟨by show h.nb ≤ h.nb + 1; omega, fun k hk _ => get_push_old _ (by omega)⟩ (fun b _ hb => by cases hb)
  have hap : appended (h.push ⟨ndCells x, 5, true⟩) i.size (.slice (some ⟨h.nb, 0, none⟩) 1 1) = some (1, ndCells x) := by
    unfold appended
    dsimp only
    unfold HP.read
    rw [hs, get_push_new]
    rfl
  obtain ⟨v', h2, own', happ, hl2, ho, he⟩ := app_lst (P := Tryz.prog) (e := 51) hi hz ⟨by rw [hs]; rfl, by omega, by omega⟩ hl1 hap (by rw [hs]; rfl) (by omega) (Nat.le_trans (Nat.mul_le_mul hmax hb) (by decide))
  rw [hs] at hl2
  have he1 : h.nb + 1 ≤ h2.nb := he.1
  refine ⟨v', h2, own', happ, hl2, ?_, ⟨by omega, fun k hk hkl => by rw [he.2 k (by show k < h.nb + 1; omega) hkl, get_push_old _ (by omega)]⟩, ?_, ?_⟩
  · rcases ho with ho | ho
    · exact .inl ho
    · exact .inr ⟨_, ho, by show h.nb ≤ h.nb + 1; omega⟩
  · rcases hl2.2 with ⟨rfl, -⟩ | ⟨b, c, r, rfl, -⟩ <;> rfl
  · rcases hl2.2 with ⟨rfl, -⟩ | ⟨b, c, r, rfl, -⟩ <;> rfl
end Go.Proofs.YteeanpfhngoobaaGreat.Xk
