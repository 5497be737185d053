/- Lists that lie apart. -/
import Derived.Test.YteeanpfhngoobaaGreatZXub
set_option linter.all false
set_option maxRecDepth 100000
namespace Go.Proofs.YteeanpfhngoobaaGreat.Xk
open Go.RowKit

structure It where
  sz : Nat
  v : Value
  cs : List Value
  n : Nat
  own : Option Nat
def It.at_ (x : It) (h : HP) : Prop := Lst h x.sz x.v x.cs x.n x.own
def owns (I : List It) : List Nat := I.flatMap fun x => x.own.toList
/-- These lists lie apart from one another, and from these blocks. -/
structure LS (h : HP) (F : List Nat) (I : List It) : Prop where
  l : ∀ x ∈ I, x.at_ h
  f : ∀ b ∈ F, b < h.nb
  nd : (F ++ owns I).Nodup
theorem owns_app (A B : List It) : owns (A ++ B) = owns A ++ owns B := by simp [owns]
theorem LS.lt {h : HP} {F : List Nat} {I : List It} (hs : LS h F I) : ∀ b ∈ F ++ owns I, b < h.nb := fun b hb => by
  rcases List.mem_append.1 hb with hb | hb
  · exact hs.f b hb
  · obtain ⟨x, hx, hb⟩ := List.mem_flatMap.1 hb
    exact (hs.l x hx).own_lt b (by simpa using hb)
theorem LS.turn {h h' : HP} {F E : List Nat} {A B : List It} {x x' : It} (hs : LS h F (A ++ x :: B)) (hl : x'.at_ h') (he : Else h h' (E ++ x.own.toList)) (hE : ∀ b ∈ E, b ∈ F) (hr : x'.own = x.own ∨ ∃ b, x'.own = some b ∧ h.nb ≤ b) : LS h' F (A ++ x' :: B) := by
  have hnd := hs.nd
  rw [owns_app, show owns (x :: B) = x.own.toList ++ owns B from rfl] at hnd
  have other : ∀ y, (y ∈ A ∨ y ∈ B) → ∀ b, y.own = some b → b ∉ E ++ x.own.toList := fun y hy b hb hm => by
    have hbi : b ∈ owns A ∨ b ∈ owns B := hy.imp (fun hy => List.mem_flatMap.2 ⟨y, hy, by simp [hb]⟩) (fun hy => List.mem_flatMap.2 ⟨y, hy, by simp [hb]⟩)
    obtain ⟨n1, n2, n3⟩ := List.nodup_append.1 hnd
    obtain ⟨m1, m2, m3⟩ := List.nodup_append.1 n2
    obtain ⟨k1, k2, k3⟩ := List.nodup_append.1 m2
    rcases List.mem_append.1 hm with hm | hm
    · refine n3 b (hE b hm) b ?_ rfl
      rcases hbi with hbi | hbi
      · exact List.mem_append_left _ hbi
      · exact List.mem_append_right _ (List.mem_append_right _ hbi)
    · rcases hbi with hbi | hbi
      · exact m3 b hbi b (List.mem_append_left _ hm) rfl
      · exact k3 b hm b hbi rfl
  refine ⟨fun y hy => ?_, fun b hb => by have := hs.f b hb; have := he.1; omega, ?_⟩
  · rcases List.mem_append.1 hy with hy | hy
    · exact (hs.l y (by simp [hy])).else he (other y (.inl hy))
    · rcases List.mem_cons.1 hy with rfl | hy
      · exact hl
      · exact (hs.l y (by simp [hy])).else he (other y (.inr hy))
  · rw [owns_app, show owns (x' :: B) = x'.own.toList ++ owns B from rfl]
    have := nodup_turn (A := F ++ owns A) (X := owns B) (r := x.own) (r' := x'.own) (n := h.nb) (by simpa [List.append_assoc] using hnd) (fun c hc => hs.lt c (by rw [owns_app, show owns (x :: B) = x.own.toList ++ owns B from rfl]; simpa [List.append_assoc] using hc)) hr
    simpa [List.append_assoc] using this
theorem LS.else {h h' : HP} {F l : List Nat} {I : List It} (hs : LS h F I) (he : Else h h' l) (hl : ∀ b ∈ owns I, b ∉ l) : LS h' F I :=
  ⟨fun x hx => (hs.l x hx).else he fun b hb => hl b (List.mem_flatMap.2 ⟨x, hx, by simp [hb]⟩), fun b hb => by have := hs.f b hb; have := he.1; omega, hs.nd⟩
theorem LS.add {h : HP} {F : List Nat} {I : List It} {x : It} (hs : LS h F I) (hx : x.at_ h) (ho : x.own = none) : LS h F (I ++ [x]) := by
  refine ⟨fun y hy => ?_, hs.f, ?_⟩
  · rcases List.mem_append.1 hy with hy | hy
    · exact hs.l y hy
    · rw [List.mem_singleton.1 hy]; exact hx
  · rw [owns_app, show owns [x] = x.own.toList ++ [] from rfl, ho]
    simpa using hs.nd
theorem LS.keep {h h' : HP} {F : List Nat} {I : List It} (hs : LS h F I) (hk : Keep h.nb h h') : LS h' F I := hs.else (l := []) ⟨hk.1, fun k h _ => hk.2 k h⟩ (fun _ _ h => by cases h)
/-- The document's graph, what is open, the names. -/
structure DS (h : HP) (M n : Nat) (os nm : Value) (N : List Nd) (R : List Int) (O : List Nat) (P : List (ByteArray × Nat)) : Prop where
  ex : ∃ (ns rs : Value) (on r oo po : Option Nat) (KI : List It), h.get M = some ⟨[ns, rs], 1, true⟩ ∧ KI.length = N.length ∧ (∀ (i : Nat) (x : Nd) (k : It), N[i]? = some x → KI[i]? = some k → k.sz = 1 ∧ k.cs = ints x.kids ∧ k.n = x.kids.length) ∧
    LS h [M] (⟨5, ns, nodeCells N (KI.map (·.v)), N.length, on⟩ :: ⟨1, rs, ints R, R.length, r⟩ :: ⟨1, os, ints (nums O), O.length, oo⟩ :: ⟨2, nm, P.flatMap (fun p => [.string p.1, .int .i64 (p.2 : Int)]), P.length, po⟩ :: KI) ∧
    n ≤ M ∧ ∀ b ∈ owns (⟨5, ns, nodeCells N (KI.map (·.v)), N.length, on⟩ :: ⟨1, rs, ints R, R.length, r⟩ :: ⟨1, os, ints (nums O), O.length, oo⟩ :: ⟨2, nm, P.flatMap (fun p => [.string p.1, .int .i64 (p.2 : Int)]), P.length, po⟩ :: KI), n ≤ b
theorem DS.keep {h h' : HP} {M n : Nat} {os nm : Value} {N : List Nd} {R : List Int} {O : List Nat} {P : List (ByteArray × Nat)} (hs : DS h M n os nm N R O P) (hk : Keep h.nb h h') : DS h' M n os nm N R O P := by
  obtain ⟨ns, rs, on, r, oo, po, KI, h1, h2, h3, h4, h5⟩ := hs.ex
  exact ⟨ns, rs, on, r, oo, po, KI, (hk.2 M (get_lt h1)).trans h1, h2, h3, h4.keep hk, h5⟩
end Go.Proofs.YteeanpfhngoobaaGreat.Xk
set_option maxRecDepth 100000
namespace Go.Proofs.YteeanpfhngoobaaGreat.Xk
open Go.RowKit

/-- What stays: all below n, and the blocks of F. -/
def Kp (n : Nat) (F : List Nat) (h h' : HP) : Prop := h.nb ≤ h'.nb ∧ ∀ k, k < h.nb → (k < n ∨ k ∈ F) → h'.get k = h.get k
theorem Kp.refl (n : Nat) (F : List Nat) (h : HP) : Kp n F h h := ⟨Nat.le_refl _, fun _ _ _ => rfl⟩
theorem Kp.trans {n : Nat} {F : List Nat} {h h' h'' : HP} (a : Kp n F h h') (b : Kp n F h' h'') : Kp n F h h'' := ⟨by have := a.1; have := b.1; omega, fun k hk hf => (b.2 k (by have := a.1; omega) hf).trans (a.2 k hk hf)⟩
theorem Kp.less {n : Nat} {F G : List Nat} {h h' : HP} (a : Kp n F h h') (hG : ∀ b ∈ G, b ∈ F) : Kp n G h h' := ⟨a.1, fun k hk hf => a.2 k hk (hf.imp id (hG k))⟩
theorem Kp.keep {n : Nat} {F : List Nat} {h h' : HP} (a : Kp n F h h') (hn : n ≤ h.nb) : Keep n h h' := ⟨a.1, fun k hk => a.2 k (by omega) (.inl hk)⟩
theorem Kp.of_keep {n : Nat} {F : List Nat} {h h' : HP} (a : Keep h.nb h h') : Kp n F h h' := ⟨a.1, fun k hk _ => a.2 k hk⟩
structure LT (h : HP) (n : Nat) (F : List Nat) (I : List It) : Prop where
  s : LS h F I
  lo : ∀ b ∈ owns I, n ≤ b
  le : n ≤ h.nb
theorem owns_mid (A B : List It) (x : It) : owns (A ++ x :: B) = owns A ++ (x.own.toList ++ owns B) := by rw [owns_app]; rfl
theorem LT.turn {h h' : HP} {n : Nat} {F E : List Nat} {A B : List It} {x x' : It} (hs : LT h n F (A ++ x :: B)) (hl : x'.at_ h') (he : Else h h' (E ++ x.own.toList)) (hE : ∀ b ∈ E, b ∈ F) (hr : x'.own = x.own ∨ ∃ b, x'.own = some b ∧ h.nb ≤ b) : LT h' n F (A ++ x' :: B) := by
  refine ⟨hs.s.turn hl he hE hr, fun b hb => ?_, by have := he.1; have := hs.le; omega⟩
  rw [owns_mid, List.mem_append, List.mem_append] at hb
  have lo := hs.lo
  rw [owns_mid] at lo
  rcases hb with hb | hb | hb
  · exact lo b (by simp [hb])
  · rcases hr with hr | ⟨c, hr, hc⟩
    · rw [hr] at hb
      exact lo b (List.mem_append_right _ (List.mem_append_left _ hb))
    · rw [hr] at hb
      have : b = c := by simpa using hb
      have := hs.le
      omega
  · exact lo b (by simp [hb])
/-- One that owns nothing in its place. -/
theorem LT.drop {h : HP} {n : Nat} {F : List Nat} {A B : List It} {x x' : It} (hs : LT h n F (A ++ x :: B)) (hl : x'.at_ h) (ho : x'.own = none) : LT h n F (A ++ x' :: B) := by
  have e : owns (A ++ x' :: B) = owns A ++ owns B := by rw [owns_mid, ho]; rfl
  refine ⟨⟨fun y hy => ?_, hs.s.f, ?_⟩, fun b hb => ?_, hs.le⟩
  · rcases List.mem_append.1 hy with hy | hy
    · exact hs.s.l y (by simp [hy])
    · rcases List.mem_cons.1 hy with rfl | hy
      · exact hl
      · exact hs.s.l y (by simp [hy])
  · rw [e]
    have := hs.s.nd
    rw [owns_mid] at this
    exact this.sublist ((List.Sublist.refl _).append ((List.Sublist.refl _).append (List.sublist_append_right _ _)))
  · rw [e] at hb
    refine hs.lo b ?_
    rw [owns_mid]
    rcases List.mem_append.1 hb with hb | hb
    · exact List.mem_append_left _ hb
    · exact List.mem_append_right _ (List.mem_append_right _ hb)
/-- The same block, told otherwise. -/
theorem LT.same {h : HP} {n : Nat} {F : List Nat} {A B : List It} {x x' : It} (hs : LT h n F (A ++ x :: B)) (hl : x'.at_ h) (ho : x'.own = x.own) : LT h n F (A ++ x' :: B) :=
  hs.turn (E := []) hl ⟨Nat.le_refl _, fun _ _ _ => rfl⟩ (fun _ h => by cases h) (.inl ho)
theorem LT.add {h : HP} {n : Nat} {F : List Nat} {I : List It} {x : It} (hs : LT h n F I) (hx : x.at_ h) (ho : x.own = none) : LT h n F (I ++ [x]) :=
  ⟨hs.s.add hx ho, fun b hb => hs.lo b (by rw [owns_app, show owns [x] = x.own.toList ++ [] from rfl, ho] at hb; simpa using hb), hs.le⟩
theorem LT.keep {h h' : HP} {n : Nat} {F : List Nat} {I : List It} (hs : LT h n F I) (hk : Keep h.nb h h') : LT h' n F I := ⟨hs.s.keep hk, hs.lo, by have := hs.le; have := hk.1; omega⟩
/-- A block more that is held. -/
theorem LT.hold {h h' : HP} {n b : Nat} {F G : List Nat} {I : List It} (hs : LT h n (F ++ G) I) (hk : Keep h.nb h h') (hb : h.nb ≤ b) (hb' : b < h'.nb) : LT h' n (F ++ b :: G) I := by
  have h1 := hs.keep hk
  refine ⟨⟨h1.s.l, fun c hc => ?_, ?_⟩, h1.lo, h1.le⟩
  · rcases List.mem_append.1 hc with hc | hc
    · exact h1.s.f c (by simp [hc])
    · rcases List.mem_cons.1 hc with rfl | hc
      · exact hb'
      · exact h1.s.f c (by simp [hc])
  · have := nodup_turn (A := F) (X := G ++ owns I) (r := none) (r' := some b) (n := h.nb) (by simpa using hs.s.nd) (fun c hc => hs.s.lt c (by simpa using hc)) (.inr ⟨b, rfl, hb⟩)
    simpa using this
theorem LT.free {h : HP} {n : Nat} {F G : List Nat} {I : List It} (hs : LT h n F I) (hG : List.Sublist G F) : LT h n G I :=
  ⟨⟨hs.s.l, fun b hb => hs.s.f b (hG.subset hb), hs.s.nd.sublist (hG.append (List.Sublist.refl _))⟩, hs.lo, hs.le⟩
theorem LT.kp {h h' : HP} {n : Nat} {F G E : List Nat} {I : List It} (hs : LT h n (F ++ G) I) (hF : ∀ b ∈ F, n ≤ b) (he : Else h h' E) (hE : ∀ b ∈ E, b ∈ F ∨ b ∈ owns I) : Kp n G h h' := by
  refine ⟨he.1, fun k hk hf => he.2 k hk fun hm => ?_⟩
  have hnd := hs.s.nd
  rw [List.append_assoc] at hnd
  obtain ⟨-, h2, h3⟩ := List.nodup_append.1 hnd
  obtain ⟨-, -, h5⟩ := List.nodup_append.1 h2
  rcases hE k hm with hm | hm
  · rcases hf with hf | hf
    · have := hF k hm; omega
    · exact h3 k hm k (List.mem_append_left _ hf) rfl
  · rcases hf with hf | hf
    · have := hs.lo k hm; omega
    · exact h5 k hf k hm rfl
def pairs (P : List (ByteArray × Nat)) : List Value := P.flatMap fun p => [.string p.1, .int .i64 (p.2 : Int)]
theorem pairs_app (P Q : List (ByteArray × Nat)) : pairs (P ++ Q) = pairs P ++ pairs Q := by simp [pairs]
theorem pairs_len : ∀ P : List (ByteArray × Nat), (pairs P).length = P.length * 2
  | [] => rfl
  | p :: P => by
    have := pairs_len P
    show ([Value.string p.1, .int .i64 (p.2 : Int)] ++ pairs P).length = _
    rw [List.length_append, this]
    simp
    omega
theorem pairs_at : ∀ (P : List (ByteArray × Nat)) (j : Nat) (p : ByteArray × Nat), P[j]? = some p → ∀ i u, [Value.string p.1, .int .i64 (p.2 : Int)][i]? = some u → (pairs P)[j * 2 + i]? = some u
  | [], j, p, hp, _, _, _ => by simp at hp
  | q :: P, 0, p, hp, i, u, hu => by
    simp at hp
    subst hp
    have := (List.getElem?_eq_some_iff.1 hu).1
    show ([Value.string q.1, .int .i64 (q.2 : Int)] ++ pairs P)[0 * 2 + i]? = _
    rw [Nat.zero_mul, Nat.zero_add, List.getElem?_append_left (by simpa using this)]
    exact hu
  | q :: P, j + 1, p, hp, i, u, hu => by
    have := pairs_at P j p (by simpa using hp) i u hu
    show ([Value.string q.1, .int .i64 (q.2 : Int)] ++ pairs P)[(j + 1) * 2 + i]? = _
    rw [List.getElem?_append_right (by simp; omega), ← this]
    congr 1
    simp
    omega
/-- A kid's list. -/
def KidOf (x : Nd) (k : It) : Prop := k.sz = 1 ∧ k.cs = ints x.kids ∧ k.n = x.kids.length
def lists (N : List Nd) (R : List Int) (O : List Nat) (P : List (ByteArray × Nat)) (ns rs os nm : Value) (on r oo po : Option Nat) (KI : List It) : List It :=
  ⟨5, ns, nodeCells N (KI.map It.v), N.length, on⟩ :: ⟨1, rs, ints R, R.length, r⟩ :: ⟨1, os, ints (nums O), O.length, oo⟩ :: ⟨2, nm, pairs P, P.length, po⟩ :: KI
structure DK (h : HP) (M n : Nat) (G : List Nat) (N : List Nd) (R : List Int) (O : List Nat) (P : List (ByteArray × Nat)) (ns rs os nm : Value) (on r oo po : Option Nat) (KI : List It) : Prop where
  box : h.get M = some ⟨[ns, rs], 1, true⟩
  le : n ≤ M
  kl : KI.length = N.length
  kids : ∀ (i : Nat) (x : Nd) (k : It), N[i]? = some x → KI[i]? = some k → KidOf x k
  ls : LT h n ([M] ++ G) (lists N R O P ns rs os nm on r oo po KI)
section
variable {h h' : HP} {M n : Nat} {G : List Nat} {N : List Nd} {R : List Int} {O : List Nat} {P : List (ByteArray × Nat)} {ns rs os nm : Value} {on r oo po : Option Nat} {KI : List It}
theorem DK.nodes (hd : DK h M n G N R O P ns rs os nm on r oo po KI) : Lst h 5 ns (nodeCells N (KI.map It.v)) N.length on := hd.ls.s.l ⟨5, ns, nodeCells N (KI.map It.v), N.length, on⟩ (by simp [lists])
theorem DK.roots (hd : DK h M n G N R O P ns rs os nm on r oo po KI) : Lst h 1 rs (ints R) R.length r := hd.ls.s.l ⟨1, rs, ints R, R.length, r⟩ (by simp [lists])
theorem DK.opn (hd : DK h M n G N R O P ns rs os nm on r oo po KI) : Lst h 1 os (ints (nums O)) O.length oo := hd.ls.s.l ⟨1, os, ints (nums O), O.length, oo⟩ (by simp [lists])
theorem DK.names (hd : DK h M n G N R O P ns rs os nm on r oo po KI) : Lst h 2 nm (pairs P) P.length po := hd.ls.s.l ⟨2, nm, pairs P, P.length, po⟩ (by simp [lists])
theorem DK.keep (hd : DK h M n G N R O P ns rs os nm on r oo po KI) (hk : Keep h.nb h h') : DK h' M n G N R O P ns rs os nm on r oo po KI :=
  ⟨(hk.2 M (get_lt hd.box)).trans hd.box, hd.le, hd.kl, hd.kids, hd.ls.keep hk⟩
theorem DK.hold {b : Nat} (hd : DK h M n G N R O P ns rs os nm on r oo po KI) (hk : Keep h.nb h h') (hb : h.nb ≤ b) (hb' : b < h'.nb) : DK h' M n (b :: G) N R O P ns rs os nm on r oo po KI :=
  ⟨(hk.2 M (get_lt hd.box)).trans hd.box, hd.le, hd.kl, hd.kids, hd.ls.hold (F := [M]) hk hb hb'⟩
theorem DK.free {b : Nat} (hd : DK h M n (b :: G) N R O P ns rs os nm on r oo po KI) : DK h M n G N R O P ns rs os nm on r oo po KI :=
  ⟨hd.box, hd.le, hd.kl, hd.kids, hd.ls.free (List.Sublist.cons_cons _ (List.sublist_cons_self _ _))⟩
theorem DK.ne (hd : DK h M n G N R O P ns rs os nm on r oo po KI) : M ∉ owns (lists N R O P ns rs os nm on r oo po KI) ∧ M ∉ G := by
  have := hd.ls.s.nd
  rw [List.singleton_append, List.cons_append, List.nodup_cons] at this
  exact ⟨fun hm => this.1 (List.mem_append_right _ hm), fun hm => this.1 (List.mem_append_left _ hm)⟩
theorem DK.other (hd : DK h M n G N R O P ns rs os nm on r oo po KI) : ∀ b ∈ G, b ∉ owns (lists N R O P ns rs os nm on r oo po KI) := fun b hb hm => by
  have := hd.ls.s.nd
  exact (List.nodup_append.1 this).2.2 b (by simp [hb]) b hm rfl
/-- No names. -/
theorem DK.unnamed (hd : DK h M n G N R O P ns rs os nm on r oo po KI) : DK h M n G N R O [] ns rs os (.slice none 0 0) on r oo none KI :=
  ⟨hd.box, hd.le, hd.kl, hd.kids, hd.ls.drop (A := [⟨5, ns, nodeCells N (KI.map It.v), N.length, on⟩, ⟨1, rs, ints R, R.length, r⟩, ⟨1, os, ints (nums O), O.length, oo⟩]) (B := KI) (x := ⟨2, nm, pairs P, P.length, po⟩) (x' := ⟨2, .slice none 0 0, pairs [], 0, none⟩) ⟨rfl, .inl ⟨rfl, rfl, rfl⟩⟩ rfl⟩
/-- The last one shut. -/
theorem DK.shut (hd : DK h M n G N R O P ns rs os nm on r oo po KI) (hO : O ≠ []) : ∃ b c, os = .slice (some ⟨b, 0, none⟩) O.length c ∧ slc h (some ⟨b, 0, none⟩) O.length c 1 0 (O.length - 1) = some (.slice (some ⟨b, 0, none⟩) (O.length - 1) c) ∧ DK h M n G N R O.dropLast P ns rs (.slice (some ⟨b, 0, none⟩) (O.length - 1) c) nm on r oo po KI := by
  have hlen : O.length ≠ 0 := fun e => hO (List.eq_nil_of_length_eq_zero e)
  obtain ⟨h1, h2⟩ := hd.opn
  rcases h2 with ⟨-, h0, -⟩ | ⟨b, c, rr, rfl, rfl, hgb, ht, hnc, hcl⟩
  · exact absurd h0 hlen
  refine ⟨b, c, rfl, ?_, hd.box, hd.le, hd.kl, hd.kids, ?_⟩
  · unfold slc
    rw [if_pos ⟨by omega, by omega⟩]
    dsimp only
    rw [hgb]
    dsimp only
    rw [if_pos ⟨rfl, by decide⟩, if_pos (by omega)]
    simp
  · have e : (O.dropLast).length = O.length - 1 := List.length_dropLast
    have := hd.ls.same (A := [⟨5, ns, nodeCells N (KI.map It.v), N.length, on⟩, ⟨1, rs, ints R, R.length, r⟩]) (B := ⟨2, nm, pairs P, P.length, po⟩ :: KI) (x := ⟨1, .slice (some ⟨b, 0, none⟩) O.length c, ints (nums O), O.length, some b⟩) (x' := ⟨1, .slice (some ⟨b, 0, none⟩) (O.length - 1) c, ints (nums O.dropLast), O.length - 1, some b⟩) ⟨by simp [ints, nums], .inr ⟨b, c, rr, rfl, rfl, hgb, ?_, Nat.le_trans (Nat.sub_le _ _) hnc, hcl⟩⟩ rfl
    · unfold lists
      rw [e]
      exact this
    · have h3 := congrArg (List.take (O.length - 1)) ht
      rw [List.take_take, Nat.min_eq_left (by omega)] at h3
      rw [Nat.mul_one, h3]
      simp [ints, nums, List.dropLast_eq_take]
end
end Go.Proofs.YteeanpfhngoobaaGreat.Xk
set_option maxRecDepth 100000
namespace Go.Proofs.YteeanpfhngoobaaGreat.Xk
open Go.RowKit

def zero2 (l : List Value) : Bool := match l with
  | [.string a, .int .i64 0] => a.data.toList.isEmpty
  | _ => false
theorem zero2_is {cs : Array Value} (h : zero2 cs.toList = true) : cs = #[.string ⟨#[]⟩, .int .i64 0] := by
  apply Array.toList_inj.1
  generalize cs.toList = l at h
  unfold zero2 at h
  split at h
  · rename_i a
    have ea : a = ⟨#[]⟩ := ByteArray.ext (Array.toList_inj.1 (by simpa using h))
    subst ea
    rfl
  · cases h
theorem pair64 : ∃ i, Tryz.prog.info? 64 = some i ∧ i.size = 2 ∧ i.zero = some (.agg #[.string ⟨#[]⟩, .int .i64 0]) ∧ i.bytes ≤ 24 := by
  have h : (match Tryz.prog.info? 64 with | some i => i.size == 2 && decide (i.bytes ≤ 24) && (match i.zero with | some (.agg cs) => zero2 cs.toList | _ => false) | none => false) = true := by kernel_rfl
  split at h
  · rename_i i hi
    simp only [Bool.and_eq_true, beq_iff_eq, decide_eq_true_eq] at h
    obtain ⟨⟨h1, h2⟩, h3⟩ := h
    split at h3
    · rename_i cs hz
      rw [zero2_is h3] at hz
      exact ⟨i, hi, h1, hz, h2⟩
    · cases h3
  · cases h
def pairC (s : ByteArray) (n : Int) : List Value := [.string s, .int .i64 n]
theorem build62 {tm : List Value} {h : HP} {x : Operand} {s : ByteArray} {n : Int} {dst : Option Tmp} {type : TypeId} {pos : String} {after : Array Edge} {guard : Option (Nat × Bool)} (hx : evl tm x = some (.agg (pairC s n).toArray)) :
    hop Tryz.prog noneK tm h ⟨dst, .buildSlice 62 1 #[(0, x)], type, pos, after, guard⟩ = some (.slice (some ⟨h.nb, 0, none⟩) 1 1, h.push ⟨pairC s n, 2, true⟩) := by
  obtain ⟨i, hi, hs, hz, hb⟩ := pair64
  unfold hop
  simp [Tryz.underlying62, evps, hx, pairC, cellsOf, isCell, hi, hz, hs, Value.cells, flat0, Instr.fill, Array.toList_range, List.range, List.range.loop]
theorem app_pair {h : HP} {v : Value} {L : List Value} {n : Nat} {own : Option Nat} (s : ByteArray) (m : Int) (hl : Lst h 2 v L n own) (hmax : n + 1 ≤ 5864062014805) :
    ∃ v' h2 own', app Tryz.prog (h.push ⟨pairC s m, 2, true⟩) 64 v (.slice (some ⟨h.nb, 0, none⟩) 1 1) = some (v', h2) ∧ Lst h2 2 v' (L ++ pairC s m) (n + 1) own' ∧ (own' = own ∨ ∃ b, own' = some b ∧ h.nb ≤ b) ∧ Else h h2 own.toList ∧ isCell v' = true ∧ cellsOf v' = some [v'] := by
  obtain ⟨i, hi, hs, hz, hb⟩ := pair64
  have hl1 : Lst (h.push ⟨pairC s m, 2, true⟩) i.size v L n own := by
    rw [hs]
    exact hl.else (l := []) ⟨by show h.nb ≤ h.nb + 1; omega, fun k hk _ => get_push_old _ (by omega)⟩ (fun b _ hb => by cases hb)
  have hap : appended (h.push ⟨pairC s m, 2, true⟩) i.size (.slice (some ⟨h.nb, 0, none⟩) 1 1) = some (1, pairC s m) := by
    unfold appended
    dsimp only
    unfold HP.read
    rw [hs, get_push_new]
    rfl
  obtain ⟨v', h2, own', happ, hl2, ho, he⟩ := app_lst (P := Tryz.prog) (e := 64) hi hz ⟨by rw [hs]; rfl, by omega, by omega⟩ hl1 hap (by rw [hs]; rfl) (by omega) (Nat.le_trans (Nat.mul_le_mul hmax hb) (by decide))
  rw [hs] at hl2
  have he1 : h.nb + 1 ≤ h2.nb := he.1
  refine ⟨v', h2, own', happ, hl2, ?_, ⟨by omega, fun k hk hkl => by rw [he.2 k (by show k < h.nb + 1; omega) hkl, get_push_old _ (by omega)]⟩, ?_, ?_⟩
  · rcases ho with ho | ho
    · exact .inl ho
    · exact .inr ⟨_, ho, by show h.nb ≤ h.nb + 1; omega⟩
  · rcases hl2.2 with ⟨rfl, -⟩ | ⟨b, c, r, rfl, -⟩ <;> rfl
  · rcases hl2.2 with ⟨rfl, -⟩ | ⟨b, c, r, rfl, -⟩ <;> rfl
section
variable {h h' : HP} {M n : Nat} {G : List Nat} {N : List Nd} {R : List Int} {O : List Nat} {P : List (ByteArray × Nat)} {ns rs os nm : Value} {on r oo po : Option Nat} {KI : List It}
theorem owns_lists : owns (lists N R O P ns rs os nm on r oo po KI) = on.toList ++ (r.toList ++ (oo.toList ++ (po.toList ++ owns KI))) := rfl
theorem mem_on {b : Nat} (h : b ∈ on.toList) : b ∈ owns (lists N R O P ns rs os nm on r oo po KI) := by rw [owns_lists]; simp only [List.mem_append]; exact .inl h
theorem mem_r {b : Nat} (h : b ∈ r.toList) : b ∈ owns (lists N R O P ns rs os nm on r oo po KI) := by rw [owns_lists]; simp only [List.mem_append]; exact .inr (.inl h)
theorem mem_oo {b : Nat} (h : b ∈ oo.toList) : b ∈ owns (lists N R O P ns rs os nm on r oo po KI) := by rw [owns_lists]; simp only [List.mem_append]; exact .inr (.inr (.inl h))
theorem mem_po {b : Nat} (h : b ∈ po.toList) : b ∈ owns (lists N R O P ns rs os nm on r oo po KI) := by rw [owns_lists]; simp only [List.mem_append]; exact .inr (.inr (.inr (.inl h)))
theorem own_ne {h h2 : HP} {M : Nat} {o o' : Option Nat} (hor : o' = o ∨ ∃ b, o' = some b ∧ h.nb ≤ b) (hM : M ∉ o.toList) (hlt : M < h.nb) : ∀ b, o' = some b → b ∉ [M] := fun b hb hm => by
  have hbM : b = M := by simpa using hm
  subst hbM
  rcases hor with rfl | ⟨c, rfl, hc⟩
  · exact hM (by simp [hb])
  · cases hb
    omega
theorem put_else {h h2 : HP} {M : Nat} {r r' : RB} {l : List Nat} (he : Else h h2 l) (hg : h2.get M = some r) : Else h (h2.put M r') ([M] ++ l) := ⟨he.1, fun k hk hkl => by
  simp only [List.singleton_append, List.mem_cons, not_or] at hkl
  rw [get_put_ne hg _ hkl.1]
  exact he.2 k hk hkl.2⟩
theorem DK.node (hd : DK h M n G N R O P ns rs os nm on r oo po KI) (x : Nd) (hx : x.kids = []) (hmax : N.length + 1 ≤ 1048576) :
    ∃ v' h2 on', app Tryz.prog (h.push ⟨ndCells x, 5, true⟩) 51 ns (.slice (some ⟨h.nb, 0, none⟩) 1 1) = some (v', h2) ∧ cellsOf v' = some [v'] ∧ isCell v' = true ∧ h2.write M 0 [v'] = some (h2.put M ⟨[v', rs], 1, true⟩) ∧
      DK (h2.put M ⟨[v', rs], 1, true⟩) M n G (N ++ [x]) R O P v' rs os nm on' r oo po (KI ++ [⟨1, .slice none 0 0, [], 0, none⟩]) ∧ Kp n G h (h2.put M ⟨[v', rs], 1, true⟩) := by
  have hMl := get_lt hd.box
  obtain ⟨hM1, hM2⟩ := hd.ne
  have hMo : M ∉ on.toList := fun hm => hM1 (mem_on hm)
  obtain ⟨v', h2, on', happ, hl2, hor, he, hisc, hcv⟩ := app_node x hd.nodes hmax
  have hg2 := (he.2 M hMl hMo).trans hd.box
  have hE := put_else (r' := ⟨[v', rs], 1, true⟩) he hg2
  have hkl := hd.kl
  have hll : (N ++ [x]).length = N.length + 1 := by simp
  have hT0 := (hd.ls.turn (A := []) (B := _ :: _ :: _ :: KI) (x' := ⟨5, v', nodeCells (N ++ [x]) ((KI ++ [(⟨1, .slice none 0 0, [], 0, none⟩ : It)]).map It.v), (N ++ [x]).length, on'⟩) (E := [M]) (by
    have h1 := hl2.else (h' := h2.put M ⟨[v', rs], 1, true⟩) (l := [M]) ⟨Nat.le_refl _, fun k hk2 hkl => get_put_ne hg2 _ (by simpa using hkl)⟩ (own_ne (h2 := h2) hor hMo hMl)
    show Lst _ 5 v' _ (N ++ [x]).length on'
    rw [hll, List.map_append, List.map_singleton, nodeCells_snoc N (KI.map It.v) x (.slice none 0 0) (by simp [hkl])]
    exact h1) hE (by simp) hor)
  have hT := hT0.add (x := ⟨1, .slice none 0 0, [], 0, none⟩) (show Lst _ 1 (.slice none 0 0) [] 0 none from ⟨rfl, .inl ⟨rfl, rfl, rfl⟩⟩) rfl
  refine ⟨v', h2, on', happ, hcv, hisc, write1 hg2 (by simp) v', ⟨get_put_same hg2 _, hd.le, by simp [hkl], fun i y k h1 h2 => ?_, hT⟩, hd.ls.kp (F := [M]) (by simpa using hd.le) hE fun b hb => ?_⟩
  · by_cases hi : i < N.length
    · rw [List.getElem?_append_left hi] at h1
      rw [List.getElem?_append_left (by rw [hkl]; exact hi)] at h2
      exact hd.kids i y k h1 h2
    · have hlt := (List.getElem?_eq_some_iff.1 h1).1
      have hi' : i = N.length := by simp at hlt; omega
      subst hi'
      rw [List.getElem?_append_right (Nat.le_refl _), Nat.sub_self] at h1
      rw [List.getElem?_append_right (by rw [hkl]; exact Nat.le_refl _), hkl, Nat.sub_self] at h2
      cases h1; cases h2
      exact ⟨rfl, by rw [hx]; rfl, by rw [hx]; rfl⟩
  · rcases List.mem_append.1 hb with hb | hb
    · exact .inl hb
    · exact .inr (mem_on hb)
theorem DK.named (hd : DK h M n G N R O P ns rs os nm on r oo po KI) (s : ByteArray) (m : Nat) (hmax : P.length + 1 ≤ 5864062014805) :
    ∃ v' h2 po', app Tryz.prog (h.push ⟨pairC s m, 2, true⟩) 64 nm (.slice (some ⟨h.nb, 0, none⟩) 1 1) = some (v', h2) ∧ DK h2 M n G N R O (P ++ [(s, m)]) ns rs os v' on r oo po' KI ∧ Kp n G h h2 := by
  have hMl := get_lt hd.box
  obtain ⟨hM1, hM2⟩ := hd.ne
  have hMo : M ∉ po.toList := fun hm => hM1 (mem_po hm)
  obtain ⟨v', h2, po', happ, hl2, hor, he, hisc, hcv⟩ := app_pair s m hd.names hmax
  have hll : (P ++ [(s, m)]).length = P.length + 1 := by simp
  refine ⟨v', h2, po', happ, ⟨(he.2 M hMl hMo).trans hd.box, hd.le, hd.kl, hd.kids, hd.ls.turn (A := [_, _, _]) (B := KI) (x' := ⟨2, v', pairs (P ++ [(s, m)]), (P ++ [(s, m)]).length, po'⟩) (E := []) (by
    show Lst _ 2 v' _ (P ++ [(s, m)]).length po'
    rw [hll, pairs_app]
    exact hl2) he (by simp) hor⟩, hd.ls.kp (F := [M]) (by simpa using hd.le) he fun b hb => .inr (mem_po hb)⟩
theorem DK.root (hd : DK h M n G N R O P ns rs os nm on r oo po KI) (x : Int) (hmax : R.length + 1 ≤ 5864062014805) :
    ∃ v' h2 r', app Tryz.prog (h.push ⟨[.int .i64 x], 1, true⟩) 3 rs (.slice (some ⟨h.nb, 0, none⟩) 1 1) = some (v', h2) ∧ cellsOf v' = some [v'] ∧ isCell v' = true ∧ h2.write M 1 [v'] = some (h2.put M ⟨[ns, v'], 1, true⟩) ∧
      DK (h2.put M ⟨[ns, v'], 1, true⟩) M n G N (R ++ [x]) O P ns v' os nm on r' oo po KI ∧ Kp n G h (h2.put M ⟨[ns, v'], 1, true⟩) := by
  have hMl := get_lt hd.box
  obtain ⟨hM1, hM2⟩ := hd.ne
  have hMo : M ∉ r.toList := fun hm => hM1 (mem_r hm)
  obtain ⟨v', h2, r', happ, hl2, hor, he, hisc, hcv, -⟩ := app_int x hd.roots hmax
  have hg2 := (he.2 M hMl hMo).trans hd.box
  have hE := put_else (r' := ⟨[ns, v'], 1, true⟩) he hg2
  have hll : (R ++ [x]).length = R.length + 1 := by simp
  refine ⟨v', h2, r', happ, hcv, hisc, write1 hg2 (by simp) v', ⟨get_put_same hg2 _, hd.le, hd.kl, hd.kids, hd.ls.turn (A := [_]) (B := _ :: _ :: KI) (x' := ⟨1, v', ints (R ++ [x]), (R ++ [x]).length, r'⟩) (E := [M]) (by
    have h1 := hl2.else (h' := h2.put M ⟨[ns, v'], 1, true⟩) (l := [M]) ⟨Nat.le_refl _, fun k hk2 hkl => get_put_ne hg2 _ (by simpa using hkl)⟩ (own_ne (h2 := h2) hor hMo hMl)
    show Lst _ 1 v' _ (R ++ [x]).length r'
    rw [hll, show ints (R ++ [x]) = ints R ++ [.int .i64 x] by simp [ints]]
    exact h1) hE (by simp) hor⟩, hd.ls.kp (F := [M]) (by simpa using hd.le) hE fun b hb => ?_⟩
  rcases List.mem_append.1 hb with hb | hb
  · exact .inl hb
  · exact .inr (mem_r hb)
theorem DK.opens (hd : DK h M n G N R O P ns rs os nm on r oo po KI) (t : Nat) (hmax : O.length + 1 ≤ 5864062014805) :
    ∃ v' h2 oo', app Tryz.prog (h.push ⟨[.int .i64 t], 1, true⟩) 3 os (.slice (some ⟨h.nb, 0, none⟩) 1 1) = some (v', h2) ∧ DK h2 M n G N R (O ++ [t]) P ns rs v' nm on r oo' po KI ∧ Kp n G h h2 := by
  have hMl := get_lt hd.box
  obtain ⟨hM1, hM2⟩ := hd.ne
  have hMo : M ∉ oo.toList := fun hm => hM1 (mem_oo hm)
  obtain ⟨v', h2, oo', happ, hl2, hor, he, hisc, hcv, -⟩ := app_int (t : Int) hd.opn hmax
  have hll : (O ++ [t]).length = O.length + 1 := by simp
  refine ⟨v', h2, oo', happ, ⟨(he.2 M hMl hMo).trans hd.box, hd.le, hd.kl, hd.kids, hd.ls.turn (A := [_, _]) (B := _ :: KI) (x' := ⟨1, v', ints (nums (O ++ [t])), (O ++ [t]).length, oo'⟩) (E := []) (by
    show Lst _ 1 v' _ (O ++ [t]).length oo'
    rw [hll, show ints (nums (O ++ [t])) = ints (nums O) ++ [.int .i64 t] by simp [ints, nums]]
    exact hl2) he (by simp) hor⟩, hd.ls.kp (F := [M]) (by simpa using hd.le) he fun b hb => .inr (mem_oo hb)⟩
theorem DK.kid (hd : DK h M n G N R O P ns rs os nm on r oo po KI) {t : Nat} {x : Nd} (hx : N[t]? = some x) (y : Int) (hmax : x.kids.length + 1 ≤ 5864062014805) :
    ∃ b c v v' h2 h3 l KI', ns = .slice (some ⟨b, 0, none⟩) N.length c ∧ h.read b (t * 5 + 3) 1 = some [v] ∧ (∃ p m q, v = .slice p m q) ∧ app Tryz.prog (h.push ⟨[.int .i64 y], 1, true⟩) 3 v (.slice (some ⟨h.nb, 0, none⟩) 1 1) = some (v', h2) ∧ cellsOf v' = some [v'] ∧ isCell v' = true ∧ h2.write b (t * 5 + 3) [v'] = some h3 ∧
      Else h h2 l ∧ M ∉ l ∧ b ∉ l ∧ DK h3 M n G (N.set t { x with kids := x.kids ++ [y] }) R O P ns rs os nm on r oo po KI' ∧ Kp n G h h3 := by
  have hMl := get_lt hd.box
  obtain ⟨hM1, hM2⟩ := hd.ne
  have ht := (List.getElem?_eq_some_iff.1 hx).1
  have hkl := hd.kl
  obtain ⟨k, hk⟩ : ∃ k, KI[t]? = some k := ⟨_, List.getElem?_eq_getElem (by omega)⟩
  have htk := (List.getElem?_eq_some_iff.1 hk).1
  have hkm := List.mem_of_getElem? hk
  obtain ⟨k1, k2, k3⟩ := hd.kids t x k hx hk
  have hkid : Lst h 1 k.v (ints x.kids) x.kids.length k.own := by
    have := hd.ls.s.l k (by simp [lists, hkm])
    unfold It.at_ at this
    rwa [k1, k2, k3] at this
  have hko : ∀ b, b ∈ k.own.toList → b ∈ owns (lists N R O P ns rs os nm on r oo po KI) := fun b hb => List.mem_flatMap.2 ⟨k, by simp [lists, hkm], hb⟩
  obtain ⟨v', h2, o', happ, hl2, hor, he, hisc, hcv, -⟩ := app_int y hkid hmax
  have hsp : KI = KI.take t ++ k :: KI.drop (t + 1) := by
    conv => lhs; rw [← List.take_append_drop t KI, List.drop_eq_getElem_cons htk]
    rw [(List.getElem?_eq_some_iff.1 hk).2]
  have hsp2 : KI.set t ⟨1, v', ints (x.kids ++ [y]), (x.kids ++ [y]).length, o'⟩ = KI.take t ++ ⟨1, v', ints (x.kids ++ [y]), (x.kids ++ [y]).length, o'⟩ :: KI.drop (t + 1) := by
    rw [List.set_eq_take_append_cons_drop, if_pos htk]
  obtain ⟨q1, q2⟩ := hd.nodes
  rcases q2 with ⟨-, q, -⟩ | ⟨b, c, rr, rfl, rfl, hgb, hrr, hnc, hcl⟩
  · omega
  have hlen := nodeCells_len N (KI.map It.v) (by simp [hkl])
  have hcell : rr[t * 5 + 3]? = some k.v := by
    have := nodeCells_at N (KI.map It.v) t x k.v hx (by simp [hk]) 3 k.v rfl
    rw [← hrr, List.getElem?_take_of_lt (by omega)] at this
    exact this
  have hbk : b ∉ k.own.toList := fun hm => by
    have := hd.ls.s.nd
    have h1 : (owns (lists N R O P (.slice (some ⟨b, 0, none⟩) N.length c) rs os nm (some b) r oo po KI)).Nodup := (List.nodup_append.1 this).2.1
    have h2 : owns (lists N R O P (.slice (some ⟨b, 0, none⟩) N.length c) rs os nm (some b) r oo po KI) = b :: (r.toList ++ (oo.toList ++ (po.toList ++ owns KI))) := rfl
    rw [h2, List.nodup_cons] at h1
    exact h1.1 (by
      simp only [List.mem_append]
      exact .inr (.inr (.inr (List.mem_flatMap.2 ⟨k, hkm, hm⟩))))
  have hMk : M ∉ k.own.toList := fun hm => hM1 (hko M hm)
  have hgb2 : h2.get b = some ⟨rr, 5, true⟩ := (he.2 b (get_lt hgb) hbk).trans hgb
  have hwr : h2.write b (t * 5 + 3) [v'] = some (h2.put b ⟨rr.set (t * 5 + 3) v', 5, true⟩) := write1 hgb2 ((List.getElem?_eq_some_iff.1 hcell).1) v'
  have hls := hd.ls
  have hT1 : LT h2 n ([M] ++ G) (lists N R O P (.slice (some ⟨b, 0, none⟩) N.length c) rs os nm (some b) r oo po KI |>.take 4 |> fun X => X ++ (KI.take t ++ ⟨1, v', ints (x.kids ++ [y]), (x.kids ++ [y]).length, o'⟩ :: KI.drop (t + 1))) := by
    have h1 : lists N R O P (.slice (some ⟨b, 0, none⟩) N.length c) rs os nm (some b) r oo po KI = ((lists N R O P (.slice (some ⟨b, 0, none⟩) N.length c) rs os nm (some b) r oo po KI).take 4 ++ KI.take t) ++ k :: KI.drop (t + 1) := by
      rw [List.append_assoc, ← hsp]
      rfl
    rw [h1] at hls
    have := hls.turn (x' := ⟨1, v', ints (x.kids ++ [y]), (x.kids ++ [y]).length, o'⟩) (E := []) (by
      show Lst _ 1 v' _ (x.kids ++ [y]).length o'
      rw [show (x.kids ++ [y]).length = x.kids.length + 1 by simp, show ints (x.kids ++ [y]) = ints x.kids ++ [.int .i64 y] by simp [ints]]
      exact hl2) he (by simp) hor
    rw [List.append_assoc] at this
    exact this
  have hset := nodeCells_set N (KI.map It.v) t x k.v (x.kids ++ [y]) v' hx (by simp [hk])
  have hT2 : LT (h2.put b ⟨rr.set (t * 5 + 3) v', 5, true⟩) n ([M] ++ G) (lists (N.set t { x with kids := x.kids ++ [y] }) R O P (.slice (some ⟨b, 0, none⟩) N.length c) rs os nm (some b) r oo po (KI.set t ⟨1, v', ints (x.kids ++ [y]), (x.kids ++ [y]).length, o'⟩)) := by
    have := hT1.turn (h' := h2.put b ⟨rr.set (t * 5 + 3) v', 5, true⟩) (A := []) (x' := ⟨5, .slice (some ⟨b, 0, none⟩) N.length c, nodeCells (N.set t { x with kids := x.kids ++ [y] }) ((KI.set t ⟨1, v', ints (x.kids ++ [y]), (x.kids ++ [y]).length, o'⟩).map It.v), (N.set t { x with kids := x.kids ++ [y] }).length, some b⟩) (E := []) (by
      show Lst _ 5 _ _ (N.set t { x with kids := x.kids ++ [y] }).length (some b)
      rw [List.length_set, List.map_set, hset]
      refine ⟨by rw [List.length_set, hlen], .inr ⟨b, c, _, rfl, rfl, get_put_same hgb2 _, ?_, hnc, by rw [List.length_set]; exact hcl⟩⟩
      rw [List.take_set, hrr]) (show Else h2 _ ([] ++ (some b).toList) from ⟨Nat.le_refl _, fun k hk2 hkl => get_put_ne hgb2 _ (by simpa using hkl)⟩) (by simp) (.inl rfl)
    rw [hsp2] at this ⊢
    exact this
  refine ⟨b, c, k.v, v', h2, _, k.own.toList, _, rfl, read1 hgb hcell, ?_, happ, hcv, hisc, hwr, he, hMk, hbk, ⟨?_, hd.le, by simp [hkl], fun i z j h1 h4 => ?_, hT2⟩, ?_⟩
  · exact lst_slice hkid |>.elim fun p hp => hp.elim fun q hq => ⟨p, _, q, hq⟩
  · rw [get_put_ne hgb2 _ (fun e => hM1 (mem_on (by simp [e])))]
    exact (he.2 M hMl hMk).trans hd.box
  · by_cases hi : i = t
    · subst hi
      rw [List.getElem?_set_self (by omega)] at h1 h4
      cases h1; cases h4
      exact ⟨rfl, rfl, rfl⟩
    · rw [List.getElem?_set_ne (fun e => hi e.symm)] at h1 h4
      exact hd.kids i z j h1 h4
  · refine hd.ls.kp (F := [M]) (E := b :: k.own.toList) (by simpa using hd.le) ⟨he.1, fun k hk2 hkl => ?_⟩ fun d hd2 => .inr ?_
    · simp only [List.mem_cons, not_or] at hkl
      rw [get_put_ne hgb2 _ hkl.1]
      exact he.2 k hk2 hkl.2
    · rcases List.mem_cons.1 hd2 with rfl | hd2
      · exact mem_on (by simp)
      · exact hko d hd2
end
end Go.Proofs.YteeanpfhngoobaaGreat.Xk
