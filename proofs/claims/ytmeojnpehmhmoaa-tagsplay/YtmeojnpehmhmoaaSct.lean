/- A Scope in memory. -/
import Derived.Test.YtmeojnpehmhmoaaTld
import Derived.Test.YtmeojnpehmhmoaaCnc
import Derived.Test.YtmeojnpehmhmoaaBk2
set_option linter.all false
set_option maxRecDepth 100000
namespace Go.Proofs.Ytmeojnpehmhmoaa
open Go.RowKit

/-- Rows in memory, in blocks from N on, none of them of X. -/
def RwsN (N : Nat) (X : Nat → Prop) (w : World) (p : Option Addr) (R : List (List Mn)) : Prop :=
  R = [] ∨ ∃ g, p = some ⟨g, 0, none⟩ ∧ (N ≤ g ∧ ¬ X g) ∧ ∀ i, i < R.length → ∃ gi ci, w.cell? ⟨g, i, none⟩ = some (.slice (some ⟨gi, 0, none⟩) (rAt R i).length ci) ∧ (rAt R i).length ≤ ci ∧ (N ≤ gi ∧ ¬ X gi) ∧ Mr w gi (rAt R i)
theorem RwsN.rws {N : Nat} {X : Nat → Prop} {w : World} {p : Option Addr} {R : List (List Mn)} (h : RwsN N X w p R) : Rws w p R := by
  rcases h with e | ⟨g, e, -, h⟩
  · exact .inl e
  · refine .inr ⟨g, e, fun i hi => ?_⟩
    obtain ⟨gi, ci, h1, h2, -, h3⟩ := h i hi
    exact ⟨gi, ci, h1, h2, h3⟩
theorem Mr.kept {A B : World} {b : Nat} {l : List Mn} {row : Option Nat} (h : Mr A b l) (hg : A.grownBy B row) (hne : some b ≠ row) : Mr B b l := fun j hj => by
  obtain ⟨h1, h2⟩ := h j hj
  have hlt := World.block_lt_of_cell? A _ h1
  have e := hg.block b hlt hne
  exact ⟨(World.cell?_of_block e).trans h1, (World.cell?_of_block e).trans h2⟩
theorem RwsN.kept {N : Nat} {X : Nat → Prop} {A B : World} {p : Option Addr} {R : List (List Mn)} {row : Option Nat} (h : RwsN N X A p R) (hg : A.grownBy B row) (hn : ∀ k, row = some k → k < N ∨ X k) : RwsN N X B p R := by
  rcases h with e | ⟨g, e, hN, h⟩
  · exact .inl e
  · refine .inr ⟨g, e, hN, fun i hi => ?_⟩
    obtain ⟨gi, ci, h1, h2, h3, h4⟩ := h i hi
    refine ⟨gi, ci, ?_, h2, h3, h4.kept hg (fun e => by rcases hn gi e.symm with h | h; omega; exact h3.2 h)⟩
    exact (World.cell?_of_block (hg.block g (World.block_lt_of_cell? A _ h1) (fun e => by rcases hn g e.symm with h | h; omega; exact hN.2 h))).trans h1
/-- What is asked of the rows: sorted, none empty, few, no handle twice; together they are D. -/
structure RD (R : List (List Mn)) (D : List Mn) : Prop where
  s : ∀ r ∈ R, Srt r
  ne : ∀ r ∈ R, 0 < r.length
  perm : R.flatten.Perm D
  few : D.length ≤ 50
  nd : (D.map hB).Nodup
theorem flat_ge : ∀ (R : List (List Mn)), (∀ r ∈ R, 0 < r.length) → R.length ≤ R.flatten.length
  | [], _ => by simp
  | r :: R, h => by
    have h1 := flat_ge R (fun x hx => h x (List.mem_cons_of_mem _ hx))
    have h2 := h r (List.mem_cons_self ..)
    rw [List.flatten_cons, List.length_append, List.length_cons]
    omega
theorem mem_flat_le {R : List (List Mn)} {r : List Mn} (h : r ∈ R) : r.length ≤ R.flatten.length := by
  induction R with
  | nil => cases h
  | cons x R ih =>
    rw [List.flatten_cons, List.length_append]
    rcases List.mem_cons.1 h with rfl | h
    · omega
    · have := ih h; omega
theorem RD.flen {R : List (List Mn)} {D : List Mn} (h : RD R D) : R.flatten.length ≤ 50 := by rw [h.perm.length_eq]; exact h.few
theorem RD.ok {R : List (List Mn)} {D : List Mn} (h : RD R D) : Rok R :=
  ⟨by have := flat_ge R h.ne; have := h.flen; omega, fun r hr => by have := mem_flat_le hr; have := h.flen; omega, h.s⟩
def look (D : List Mn) (h : ByteArray) : Option ByteArray := (D.find? fun x => decide (hB x = h.data.toList)).map (·.2)
theorem look_perm {A D : List Mn} (hp : A.Perm D) (hn : (D.map hB).Nodup) (h : ByteArray) : look A h = look D h := by
  have key : ∀ (L : List Mn), (L.map hB).Nodup → ∀ x, look L h = some x ↔ ∃ y ∈ L, hB y = h.data.toList ∧ y.2 = x := by
    intro L hL x
    unfold look
    rw [Option.map_eq_some_iff]
    constructor
    · rintro ⟨y, hy, rfl⟩
      exact ⟨y, List.mem_of_find?_eq_some hy, by simpa using List.find?_some hy, rfl⟩
    · rintro ⟨y, hy, e, rfl⟩
      refine ⟨y, ?_, rfl⟩
      cases hf : L.find? (fun x => decide (hB x = h.data.toList)) with
      | none =>
        have := List.find?_eq_none.1 hf y hy
        exact absurd (decide_eq_true e) this
      | some z =>
        have hz := List.mem_of_find?_eq_some hf
        have ez : hB z = h.data.toList := by simpa using List.find?_some hf
        congr 1
        obtain ⟨i, hi, ei⟩ := List.mem_iff_getElem.1 hy
        obtain ⟨j, hj, ej⟩ := List.mem_iff_getElem.1 hz
        have hpw := List.pairwise_iff_getElem.1 hL
        have : i = j := by
          rcases Nat.lt_trichotomy i j with h5 | h5 | h5
          · exact absurd (by rw [List.getElem_map, List.getElem_map, ei, ej, e, ez]) (hpw i j (by simpa using hi) (by simpa using hj) h5)
          · exact h5
          · exact absurd (by rw [List.getElem_map, List.getElem_map, ei, ej, e, ez]) (hpw j i (by simpa using hj) (by simpa using hi) h5)
        subst this
        rw [← ei, ← ej]
  have hA : (A.map hB).Nodup := (hp.map hB).nodup_iff.2 hn
  cases h1 : look A h with
  | some x =>
    obtain ⟨y, hy, e⟩ := (key A hA x).1 h1
    exact ((key D hn x).2 ⟨y, hp.mem_iff.1 hy, e⟩).symm
  | none =>
    cases h2 : look D h with
    | none => rfl
    | some x =>
      obtain ⟨y, hy, e⟩ := (key D hn x).1 h2
      rw [(key A hA x).2 ⟨y, hp.mem_iff.2 hy, e⟩] at h1
      cases h1
theorem RD.look {R : List (List Mn)} {D : List Mn} (h : RD R D) (x : ByteArray) : inRows R x = look D x := look_perm h.perm h.nd x
/-- A Scope that was told D. -/
structure Sc (N : Nat) (X : Nat → Prop) (w : World) (b : Nat) (D : List Mn) : Prop where
  bN : b < N
  Nw : N ≤ w.heap.size
  ex : ∃ R p cap, Boxed w b 27 (.slice p R.length cap) ∧ R.length ≤ cap ∧ RwsN N X w p R ∧ RD R D
theorem Sc.kept {N : Nat} {X : Nat → Prop} {A B : World} {b : Nat} {D : List Mn} {row : Option Nat} (h : Sc N X A b D) (hg : A.grownBy B row) (hn : ∀ k, row = some k → (k < N ∨ X k) ∧ k ≠ b) : Sc N X B b D := by
  obtain ⟨h1, h2, R, p, cap, h3, h4, h5, h6⟩ := h
  refine ⟨h1, Nat.le_trans h2 hg.size, R, p, cap, h3.kept hg (fun e => (hn b e.symm).2 rfl), h4, h5.kept hg (fun k e => (hn k e).1), h6⟩
theorem Sc.below {N : Nat} {X : Nat → Prop} {A B : World} {b : Nat} {D : List Mn} (h : Sc N X A b D) (hb : Below A.heap.size A B) : Sc N X B b D :=
  h.kept (row := none) ⟨hb.os, hb.tape, hb.output, hb.size, fun k hk _ => hb.block k hk⟩ (fun k e => by cases e)
theorem Sc.told {N : Nat} {X : Nat → Prop} {w : World} {b : Nat} {D : List Mn} (h : Sc N X w b D) (x : ByteArray) : Calls Try.prog 14 #[.pointer (some ⟨b, 0, none⟩), .string x] w fun e w' => e = .returned (optV (look D x)) ∧ Below w.heap.size w w' := by
  obtain ⟨-, -, R, p, cap, h3, h4, h5, h6⟩ := h
  have := told_any b cap p R x w h3.cell h4 h5.rws h6.ok h6.ne
  rw [h6.look x] at this
  exact this
theorem Sc.tels {N : Nat} {X : Nat → Prop} {w : World} {b : Nat} {D : List Mn} (h : Sc N X w b D) : TelS (some ⟨b, 0, none⟩) (look D) w := fun x W _ hb => (h.below hb).told x
/-- Blocks that are made later may be kept out, too. -/
theorem Sc.out {N : Nat} {X Y : Nat → Prop} {w : World} {b : Nat} {D : List Mn} (h : Sc N X w b D) (hY : ∀ k, Y k → X k ∨ w.heap.size ≤ k) : Sc N Y w b D := by
  obtain ⟨h1, h2, R, p, cap, h3, h4, h5, h6⟩ := h
  refine ⟨h1, h2, R, p, cap, h3, h4, ?_, h6⟩
  rcases h5 with e | ⟨g, e, hN, h⟩
  · exact .inl e
  · by_cases hR : R.length = 0
    · exact .inl (List.eq_nil_of_length_eq_zero hR)
    · refine .inr ⟨g, e, ⟨hN.1, fun hg => ?_⟩, fun i hi => ?_⟩
      · rcases hY g hg with hx | hx
        · exact hN.2 hx
        · obtain ⟨gi, ci, a1, -⟩ := h 0 (by omega)
          have := World.block_lt_of_cell? w _ a1
          dsimp only at this
          omega
      · obtain ⟨gi, ci, a1, a2, a3, a4⟩ := h i hi
        refine ⟨gi, ci, a1, a2, ⟨a3.1, fun hg => ?_⟩, a4⟩
        rcases hY gi hg with hx | hx
        · exact a3.2 hx
        · have hne : 0 < (rAt R i).length := h6.ne _ (rAt_mem hi)
          have := World.block_lt_of_cell? w _ (a4 0 hne).1
          dsimp only at this
          omega
/-- Nothing was told yet. -/
theorem Sc.zero {N : Nat} (X : Nat → Prop) {w : World} {b : Nat} (hb : Boxed w b 27 (.slice none 0 0)) (h1 : b < N) (h2 : N ≤ w.heap.size) : Sc N X w b [] :=
  ⟨h1, h2, [], none, 0, hb, Nat.le_refl _, .inl rfl, { s := by simp, ne := by simp, perm := List.Perm.refl _, few := by simp, nd := by simp }⟩
end Go.Proofs.Ytmeojnpehmhmoaa
