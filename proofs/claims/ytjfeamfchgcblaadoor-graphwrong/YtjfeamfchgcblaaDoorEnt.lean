/- What comings keeps in memory, and its closure enter. -/
import Derived.Test.YtjfeamfchgcblaaDoorSpu
import Derived.Test.YtjfeamfchgcblaaDoorDfs
set_option linter.all false
set_option maxRecDepth 100000
namespace Go.Proofs.YtjfeamfchgcblaaDoor
open Go.RowKit Go.Shelf
attribute [local go_sem] Oper.semAt_some

/-- All blocks of A are in B as they were. -/
def Lo (A B : World) : Prop := A.heap.size ≤ B.heap.size ∧ ∀ b, b < A.heap.size → B.heap[b]? = A.heap[b]?
theorem Lo.of {A B : World} (h : Below A.heap.size A B) : Lo A B := ⟨h.size, fun b hb => h.block b hb⟩
theorem Lo.trk {A B C : World} {X : Nat → Prop} (h : Lo A B) (k : Trk X B C) (hX : ∀ b, X b → A.heap.size ≤ b) : Lo A C := ⟨Nat.le_trans h.1 k.size, fun b hb => (k.same b (Nat.lt_of_lt_of_le hb h.1) (fun e => by have := hX b e; omega)).trans (h.2 b hb)⟩
theorem Lo.kq {A B C : World} {X : Nat → Prop} (h : Lo A B) (k : Kq X B C) (hX : ∀ b, b < A.heap.size → X b) : Lo A C := ⟨Nat.le_trans h.1 k.size, fun b hb => (k.same b (hX b hb)).trans (h.2 b hb)⟩
theorem Lo.cell {A B : World} (h : Lo A B) {b o : Nat} {v : Value} (hv : A.cell? ⟨b, o, none⟩ = some v) : B.cell? ⟨b, o, none⟩ = some v :=
  (World.cell?_of_block (a := ⟨b, o, none⟩) (h.2 b (World.block_lt_of_cell? A ⟨b, o, none⟩ hv))).trans hv
theorem Is.lo {A B : World} {q : Option Addr} {l : List Int} (h : Is A q l) (hb : Lo A B) : Is B q l := by
  rcases h with e | ⟨b, o, rfl, hc⟩
  · exact .inl e
  · exact .inr ⟨b, o, rfl, fun j hj => hb.cell (hc j hj)⟩
theorem Gc.lo {A B : World} {b o : Nat} {x : Gn} (h : Gc A b o x) (hb : Lo A B) : Gc B b o x := ⟨hb.cell h.c0, hb.cell h.c1, hb.cell h.c2, hb.cell h.c3, hb.cell h.c4⟩
theorem Gs.lo {A B : World} {p : Option Addr} {G : List Gn} (h : Gs A p G) (hb : Lo A B) : Gs B p G :=
  ⟨fun j hj => ⟨(h.k j hj).is.lo hb, (h.k j hj).lc, (h.k j hj).cm⟩, fun h0 => by
    obtain ⟨b, o, e, h1⟩ := h.at_ h0
    exact ⟨b, o, e, fun j hj => (h1 j hj).lo hb⟩⟩
theorem ty_ne {w : World} {b : Nat} {c c' : Array Value} {t t' : TypeId} {f f' : Nat × Nat} (h : w.heap[b]? = some (.cells c t f)) (h' : w.heap[b]? = some (.cells c' t' f')) (hn : t ≠ t') : False := by
  rw [h] at h'
  injection h' with h'
  injection h' with _ h'
  exact hn h'
def u8V (x : Nat) : Value := .int .u8 (x : Nat)
/-- What comings keeps: stands (its box B4 and its list sb), path (its box B5 and its list), and the graph's box Bg. -/
structure CS (N B4 sb B5 Bg nG c : Nat) (p : Option Addr) (v2 : Value) (S : List Nat) (P : List Vs) (vp : Value) (w : World) : Prop where
  b4 : w.heap[B4]? = some (.cells #[.slice (some ⟨sb, 0, none⟩) nG nG] 50)
  sb : w.heap[sb]? = some (.cells (S.map u8V).toArray 45)
  st : Ps N B5 P vp w
  bg : w.heap[Bg]? = some (.cells #[.slice p nG c, v2] 25)
section
variable {N B4 sb B5 Bg nG c : Nat} {p : Option Addr} {v2 : Value} {S : List Nat} {P : List Vs} {vp : Value} {w w' : World}
theorem CS.c4 (h : CS N B4 sb B5 Bg nG c p v2 S P vp w) : w.cell? ⟨B4, 0, none⟩ = some (.slice (some ⟨sb, 0, none⟩) nG nG) := by simp [World.cell?, h.b4]
theorem CS.cg (h : CS N B4 sb B5 Bg nG c p v2 S P vp w) : w.cell? ⟨Bg, 0, none⟩ = some (.slice p nG c) := by simp [World.cell?, h.bg]
theorem CS.cs (h : CS N B4 sb B5 Bg nG c p v2 S P vp w) {k : Nat} (hk : k < S.length) : w.cell? ⟨sb, k, none⟩ = some (.int .u8 (sdAt S k : Nat)) ∧ w.frozen? ⟨sb, k, none⟩ = false := by
  constructor
  · unfold sdAt
    rw [Int.toNat_natCast]
    simp [World.cell?, h.sb, hk, u8V]
  · simp [World.frozen?, h.sb]
theorem CS.same (h : CS N B4 sb B5 Bg nG c p v2 S P vp w) (hk : ∀ b, b = B4 ∨ b = sb ∨ b = B5 ∨ b = Bg ∨ vp.ownBlock = some b → w'.heap[b]? = w.heap[b]?) : CS N B4 sb B5 Bg nG c p v2 S P vp w' :=
  ⟨(hk B4 (.inl rfl)).trans h.b4, (hk sb (.inr (.inl rfl))).trans h.sb, ⟨(hk B5 (.inr (.inr (.inl rfl)))).trans h.st.b, row_same h.st.o fun g e => hk g (.inr (.inr (.inr (.inr e))))⟩, (hk Bg (.inr (.inr (.inr (.inl rfl))))).trans h.bg⟩
theorem CS.row (h : CS N B4 sb B5 Bg nG c p v2 S P vp w) {r : Nat} (e : vp.ownBlock = some r) : N ≤ r ∧ r < w.heap.size ∧ r ≠ B4 ∧ r ≠ sb ∧ r ≠ B5 ∧ r ≠ Bg := by
  obtain ⟨h1, cur, h2⟩ := row_type h.st.o e
  refine ⟨h1, (Array.getElem?_eq_some_iff.1 h2).1, ?_, ?_, ?_, ?_⟩ <;> rintro rfl
  · exact ty_ne h.b4 h2 (by decide)
  · exact ty_ne h.sb h2 (by decide)
  · exact ty_ne h.st.b h2 (by decide)
  · exact ty_ne h.bg h2 (by decide)
theorem CS.ne (h : CS N B4 sb B5 Bg nG c p v2 S P vp w) : B4 ≠ sb ∧ B4 ≠ B5 ∧ B4 ≠ Bg ∧ sb ≠ B5 ∧ sb ≠ Bg ∧ B5 ≠ Bg := by
  have h1 := h.b4
  have h2 := h.sb
  have h3 := h.st.b
  have h4 := h.bg
  refine ⟨?_, ?_, ?_, ?_, ?_, ?_⟩ <;> rintro rfl
  · exact ty_ne h1 h2 (by decide)
  · exact ty_ne h1 h3 (by decide)
  · exact ty_ne h1 h4 (by decide)
  · exact ty_ne h2 h3 (by decide)
  · exact ty_ne h2 h4 (by decide)
  · exact ty_ne h3 h4 (by decide)
theorem CS.lt (h : CS N B4 sb B5 Bg nG c p v2 S P vp w) : B4 < w.heap.size ∧ sb < w.heap.size ∧ B5 < w.heap.size ∧ Bg < w.heap.size :=
  ⟨(Array.getElem?_eq_some_iff.1 h.b4).1, (Array.getElem?_eq_some_iff.1 h.sb).1, (Array.getElem?_eq_some_iff.1 h.st.b).1, (Array.getElem?_eq_some_iff.1 h.bg).1⟩
theorem set_grown (w : World) (g o : Nat) (x : Value) : w.grownBy (w.setCell ⟨g, o, none⟩ x) (some g) :=
  ⟨rfl, rfl, rfl, by simp [World.setCell], fun k _ hne => Deep.blk_setCell_other _ _ _ _ (fun e => hne (by have e' : k = g := e; rw [e']))⟩
theorem CS.stand (h : CS N B4 sb B5 Bg nG c p v2 S P vp w) (k v : Nat) : CS N B4 sb B5 Bg nG c p v2 (S.set k v) P vp (w.setCell ⟨sb, k, none⟩ (.int .u8 (v : Nat))) := by
  obtain ⟨n1, n2, n3, n4, n5, n6⟩ := h.ne
  have hoth : ∀ j, j ≠ sb → (w.setCell ⟨sb, k, none⟩ (.int .u8 (v : Nat))).heap[j]? = w.heap[j]? := fun j hj => Deep.blk_setCell_other _ _ _ _ hj
  refine ⟨(hoth _ n1).trans h.b4, ?_, ⟨(hoth _ (Ne.symm n4)).trans h.st.b, row_same h.st.o fun g e => hoth g (h.row e).2.2.2.1⟩, (hoth _ (Ne.symm n5)).trans h.bg⟩
  have hsn := h.sb
  simp [World.setCell, Array.getElem?_modify, hsn, List.map_set, u8V]
def CX (sb B5 : Nat) (vp : Value) (b : Nat) : Prop := b = sb ∨ b = B5 ∨ vp.ownBlock = some b
set_option maxHeartbeats 3200000 in
theorem enter_any {w0 : World} {G : List Gn} (hG : Gs w0 p G) (hn : nG = G.length) (hn2 : G.length ≤ 1000) (h : CS N B4 sb B5 Bg nG c p v2 S P vp w) (hS : S.length = G.length) (hlo : Lo w0 w) (hsb : w0.heap.size ≤ sb) (hN : N ≤ w.heap.size) (hl : P.length ≤ 1073741824) (kn : Nat) (hk : kn < G.length) :
    Calls Tryd.prog 33 #[.int .i64 (kn : Nat), .pointer (some ⟨B4, 0, none⟩), .pointer (some ⟨B5, 0, none⟩), .pointer (some ⟨Bg, 0, none⟩)] w fun en w' => (∃ v, en = .returned v) ∧ ∃ g cap, Trk (CX sb B5 vp) w w' ∧
      CS N B4 sb B5 Bg nG c p v2 (S.set kn 1) (⟨(kn : Nat), (gAt G kn).kids, (gAt G kn).q, (gAt G kn).c⟩ :: P) (.slice (some ⟨g, 0, none⟩) (P.length + 1) cap) w' ∧ (vp.ownBlock = some g ∨ w.heap.size ≤ g) := by
  subst hn
  have c4 := h.c4
  obtain ⟨cs, fs⟩ := h.cs (k := kn) (by omega)
  have h1 : CS N B4 sb B5 Bg G.length c p v2 (S.set kn 1) P vp (w.setCell ⟨sb, kn, none⟩ (.int .u8 1)) := h.stand kn 1
  have hg1 := set_grown w sb kn (.int .u8 1)
  have T1 : Trk (CX sb B5 vp) w (w.setCell ⟨sb, kn, none⟩ (.int .u8 1)) := .one hg1 (fun r e => by cases e; exact .inl rfl)
  have hlo1 : Lo w0 (w.setCell ⟨sb, kn, none⟩ (.int .u8 1)) := ⟨Nat.le_trans hlo.1 hg1.size, fun b hb => (hg1.block b (Nat.lt_of_lt_of_le hb hlo.1) (fun e => by cases e; omega)).trans (hlo.2 b hb)⟩
  obtain ⟨w1, hw1⟩ : ∃ w1, w.setCell ⟨sb, kn, none⟩ (.int .u8 1) = w1 := ⟨_, rfl⟩
  rw [hw1] at h1 T1 hlo1 hg1
  have hG1 := hG.lo hlo1
  obtain ⟨b, o, rfl, hc⟩ := hG1.at_ (by omega)
  have a3 := (hc kn hk).c3
  have cg := h1.cg
  have PU := Push_any h1.st hl (Nat.le_trans hN hg1.size) ⟨(kn : Nat), (gAt G kn).kids, (gAt G kn).q, (gAt G kn).c⟩
  dsimp only at PU
  have hk' : (kn : Int) < G.length := by omega
  have HE : Hid (∀ w3 g cap, Trk (Px B5 vp) w1 w3 → Ps N B5 (⟨(kn : Nat), (gAt G kn).kids, (gAt G kn).q, (gAt G kn).c⟩ :: P) (.slice (some ⟨g, 0, none⟩) (P.length + 1) cap) w3 → (vp.ownBlock = some g ∨ w1.heap.size ≤ g) → ∃ g cap, Trk (CX sb B5 vp) w w3 ∧
      CS N B4 sb B5 Bg G.length c (some ⟨b, o, none⟩) v2 (S.set kn 1) (⟨(kn : Nat), (gAt G kn).kids, (gAt G kn).q, (gAt G kn).c⟩ :: P) (.slice (some ⟨g, 0, none⟩) (P.length + 1) cap) w3 ∧ (vp.ownBlock = some g ∨ w.heap.size ≤ g)) := fun w3 g cap t3 s3 o3 => by
    obtain ⟨n1, n2, n3, n4, n5, n6⟩ := h1.ne
    obtain ⟨l1, l2, l3, l4⟩ := h1.lt
    have nx : ∀ b, b ≠ B5 → vp.ownBlock ≠ some b → ¬ Px B5 vp b := fun b h2 h3 h4 => h4.elim h2 h3
    refine ⟨g, cap, T1.trans (t3.more fun b hb => .inr hb), ⟨(t3.same B4 l1 (nx _ n2 (fun e => (h1.row e).2.2.1 rfl))).trans h1.b4, (t3.same sb l2 (nx _ n4 (fun e => (h1.row e).2.2.2.1 rfl))).trans h1.sb, s3, (t3.same Bg l4 (nx _ (Ne.symm n6) (fun e => (h1.row e).2.2.2.2.2 rfl))).trans h1.bg⟩, o3.imp id (fun e => by have := hg1.size; omega)⟩
  generalize (gAt G kn).q = q at *
  generalize (gAt G kn).kids = kids at *
  generalize (gAt G kn).c = ck at *
  clear hG hG1 hc h h1 T1 hlo1 hg1 hlo
  go_enter Tryd.func33, Tryd.ntmps33
  go_wp2_with (first | (go_at_call 34; (try rw [hw1]); refine PU.mono ?_; rintro e w3 ⟨⟨v3, rfl⟩, g, cap, t3, s3, o3⟩) | rw [hw1])
  go_end0
  exact ⟨⟨_, rfl⟩, HE.out w3 g cap t3 s3 o3⟩
end
end Go.Proofs.YtjfeamfchgcblaaDoor
