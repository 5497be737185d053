/- A graph in memory; the document's text and node. -/
import Derived.Test.YtjfeamfchgcblaaDoorLeaf
import Derived.RangeFuncBox
set_option linter.all false
set_option maxRecDepth 100000
namespace Go.Proofs.YtjfeamfchgcblaaDoor
open Go.RowKit

/-- A node, and where its Kids lie. -/
structure Gn where
  kind : Int
  tag : ByteArray
  text : ByteArray
  q : Option Addr
  kids : List Int
  c : Nat
  plain : Bool
def gAt (G : List Gn) (j : Nat) : Gn := G[j]?.getD ⟨0, ⟨#[]⟩, ⟨#[]⟩, none, [], 0, false⟩
theorem gAt_get {G : List Gn} {j : Nat} (h : j < G.length) : gAt G j = G[j] := by unfold gAt; rw [List.getElem?_eq_getElem h]; rfl
theorem gAt_mem {G : List Gn} {j : Nat} (h : j < G.length) : gAt G j ∈ G := by rw [gAt_get h]; exact List.getElem_mem h
/-- A node's five cells. -/
structure Gc (w : World) (b o : Nat) (x : Gn) : Prop where
  c0 : w.cell? ⟨b, o, none⟩ = some (.int .i64 x.kind)
  c1 : w.cell? ⟨b, o + 1, none⟩ = some (.string x.tag)
  c2 : w.cell? ⟨b, o + 2, none⟩ = some (.string x.text)
  c3 : w.cell? ⟨b, o + 3, none⟩ = some (.slice x.q x.kids.length x.c)
  c4 : w.cell? ⟨b, o + 4, none⟩ = some (.bool x.plain)
theorem Gc.on {A B : World} {b o : Nat} {x : Gn} (h : Gc A b o x) (hb : Below A.heap.size A B) : Gc B b o x := by
  have hlt := World.block_lt_of_cell? A _ h.c0
  dsimp only at hlt
  exact ⟨(hb.cell (p := ⟨b, o, none⟩) hlt).trans h.c0, (hb.cell (p := ⟨b, o + 1, none⟩) hlt).trans h.c1, (hb.cell (p := ⟨b, o + 2, none⟩) hlt).trans h.c2, (hb.cell (p := ⟨b, o + 3, none⟩) hlt).trans h.c3, (hb.cell (p := ⟨b, o + 4, none⟩) hlt).trans h.c4⟩
/-- What is asked of a node wherever it lies. -/
structure Gk (w : World) (x : Gn) : Prop where
  is : Is w x.q x.kids
  lc : x.kids.length ≤ x.c
  cm : x.c ≤ maxLen
theorem Gk.on {A B : World} {x : Gn} (h : Gk A x) (hb : Below A.heap.size A B) : Gk B x := ⟨h.is.on hb, h.lc, h.cm⟩
/-- The nodes of a graph. -/
structure Gs (w : World) (p : Option Addr) (G : List Gn) : Prop where
  k : ∀ j, j < G.length → Gk w (gAt G j)
  at_ : 0 < G.length → ∃ b o, p = some ⟨b, o, none⟩ ∧ ∀ j, j < G.length → Gc w b (o + j * 5) (gAt G j)
theorem Gs.on {A B : World} {p : Option Addr} {G : List Gn} (h : Gs A p G) (hb : Below A.heap.size A B) : Gs B p G :=
  ⟨fun j hj => (h.k j hj).on hb, fun h0 => by
    obtain ⟨b, o, e, h1⟩ := h.at_ h0
    exact ⟨b, o, e, fun j hj => (h1 j hj).on hb⟩⟩

/-- What is asked of the lower chapters. -/
structure LowG (rit rv : ByteArray → Bool) : Prop where
  tx : ∀ (s : ByteArray) (w : World), s.size ≤ 1048576 → Calls Tryd.prog 40 #[.string s] w fun e w' => ∃ v, e = .returned (.tuple #[v, .bool (rit s)]) ∧ Below w.heap.size w w'
  vl : ∀ (s : ByteArray) (w : World), s.size ≤ 1048576 → Calls Tryd.prog 30 #[.string s] w fun e w' => e = .returned (.bool (rv s)) ∧ Below w.heap.size w w'
def textP (rit : ByteArray → Bool) (s : ByteArray) : Bool := rit s && decide (s.size ≤ 262144)
set_option maxHeartbeats 800000 in
theorem rtextG_any {rit rv : ByteArray → Bool} (Lo : LowG rit rv) (s : ByteArray) (w : World) (hs : s.size ≤ 1048576) :
    Calls Tryd.prog 31 #[.string s] w fun e w' => e = .returned (.bool (textP rit s)) ∧ Below w.heap.size w w' := by
  have TX := Lo.tx s w hs
  unfold textP
  cases hr : rit s with
  | false =>
    rw [hr] at TX
    go_enter Tryd.func31, Tryd.ntmps31
    go_wp2_with (first | (go_at_call 40; refine TX.mono ?_; rintro e w1 ⟨v, rfl, hb⟩))
    go_ret
    exact ⟨rfl, hb⟩
  | true =>
    rw [hr] at TX
    have hs2 : (s.size : Int) ≤ 1048576 := by omega
    go_enter Tryd.func31, Tryd.ntmps31
    go_wp2_with (first | (go_at_call 40; refine TX.mono ?_; rintro e w1 ⟨v, rfl, hb⟩))
    go_ret
    refine ⟨ret_bool ?_, hb⟩
    rw [Bool.true_and, decide_eq_decide]
    omega
def tagOk (rv : ByteArray → Bool) (s : ByteArray) : Bool := rv s && !(s.toList == [33]) && decide (s.size ≤ 1000)
def kidsOk (l : List Int) (n : Int) : Bool := l.all fun k => decide (0 ≤ k ∧ k < n)
def kindOk (rit : ByteArray → Bool) (x : Gn) : Bool :=
  if x.kind = 1 then decide (x.kids.length = 0) && textP rit x.text
  else if x.kind = 2 then x.text.toList.isEmpty && !x.plain
  else if x.kind = 3 then x.text.toList.isEmpty && !x.plain && decide (x.kids.length % 2 = 0)
  else false
def nodeP (rit rv : ByteArray → Bool) (x : Gn) (n : Int) : Bool := tagOk rv x.tag && (kidsOk x.kids n && kindOk rit x)
def gV (x : Gn) : Value := .agg #[.int .i64 x.kind, .string x.tag, .string x.text, .slice x.q x.kids.length x.c, .bool x.plain]
theorem kidsOk_no {l : List Int} {n : Int} {i : Nat} (hi : i < l.length) (h : ¬ (0 ≤ iAt l i ∧ iAt l i < n)) : kidsOk l n = false := by
  unfold kidsOk
  rw [List.all_eq_false]
  refine ⟨iAt l i, ?_, by simpa using h⟩
  unfold iAt
  rw [List.getElem?_eq_getElem hi]
  exact List.getElem_mem hi
theorem kidsOk_yes {l : List Int} {n : Int} (h : ∀ i, i < l.length → 0 ≤ iAt l i ∧ iAt l i < n) : kidsOk l n = true := by
  unfold kidsOk
  rw [List.all_eq_true]
  intro x hx
  obtain ⟨i, hi, rfl⟩ := List.mem_iff_getElem.1 hx
  have := h i hi
  unfold iAt at this
  rw [List.getElem?_eq_getElem hi] at this
  exact decide_eq_true this
set_option maxHeartbeats 1600000 in
theorem rnode_any {rit rv : ByteArray → Bool} (Lo : LowG rit rv) (x : Gn) (n : Int) (w : World) (ht : x.tag.size ≤ 1048576) (hx : x.text.size ≤ 1048576) (hk : Gk w x) (hl : x.kids.length ≤ 1000000) :
    Calls Tryd.prog 23 #[gV x, .int .i64 n] w fun e w' => e = .returned (.bool (nodeP rit rv x n)) ∧ Below w.heap.size w w' := by
  obtain ⟨kind, tag, text, q, kids, c, plain⟩ := x
  dsimp only at ht hx hl
  have his := hk.is
  dsimp only at his
  clear hk
  unfold gV nodeP
  dsimp only
  have hB := (Below.refl w.heap.size w).alloc (Nat.le_refl _) (.cells #[.int .i64 kind, .string tag, .string text, .slice q kids.length c, .bool plain] 33)
  have b0 : (w.alloc (.cells #[.int .i64 kind, .string tag, .string text, .slice q kids.length c, .bool plain] 33)).heap[w.heap.size]? = some (.cells #[.int .i64 kind, .string tag, .string text, .slice q kids.length c, .bool plain] 33) := World.alloc_heap_new w _
  obtain ⟨w1, hw1⟩ : ∃ w1, w.alloc (.cells #[.int .i64 kind, .string tag, .string text, .slice q kids.length c, .bool plain] 33) = w1 := ⟨_, rfl⟩
  rw [hw1] at hB b0
  have VL := Lo.vl tag w1 ht
  have cells : ∀ W, Below w.heap.size w W → W.heap[w.heap.size]? = w1.heap[w.heap.size]? → (W.cell? ⟨w.heap.size, 0, none⟩ = some (.int .i64 kind) ∧ W.cell? ⟨w.heap.size, 1, none⟩ = some (.string tag) ∧ W.cell? ⟨w.heap.size, 2, none⟩ = some (.string text) ∧ W.cell? ⟨w.heap.size, 3, none⟩ = some (.slice q kids.length c) ∧ W.cell? ⟨w.heap.size, 4, none⟩ = some (.bool plain)) := by
    intro W _ h
    rw [b0] at h
    unfold World.cell?
    rw [h]
    exact ⟨rfl, rfl, rfl, rfl, rfl⟩
  obtain ⟨f0, f1, f2, f3, f4⟩ := cells w1 hB rfl
  have hlt : w.heap.size < w1.heap.size := by rw [← hw1]; simp
  cases hv : rv tag with
  | false =>
    rw [hv] at VL
    have HR : Hid ((tagOk rv tag && (kidsOk kids n && kindOk rit ⟨kind, tag, text, q, kids, c, plain⟩)) = false) := by show _ = _; unfold tagOk; rw [hv]; rfl
    generalize (tagOk rv tag && (kidsOk kids n && kindOk rit ⟨kind, tag, text, q, kids, c, plain⟩)) = R at HR ⊢
    clear cells b0
    go_enter Tryd.func23, Tryd.ntmps23
    go_wp2_with (first | (go_at_call 30; (try rw [hw1]); refine VL.mono ?_; rintro e w2 ⟨rfl, hb⟩))
    go_ret
    exact ⟨ret_bool HR.out.symm, hB.trans (hb.mono hB.size)⟩
  | true =>
    rw [hv] at VL
    cases he : (tag.toList == [33]) with
    | true =>
      have HR : Hid ((tagOk rv tag && (kidsOk kids n && kindOk rit ⟨kind, tag, text, q, kids, c, plain⟩)) = false) := by show _ = _; unfold tagOk; rw [hv, he]; rfl
      generalize (tagOk rv tag && (kidsOk kids n && kindOk rit ⟨kind, tag, text, q, kids, c, plain⟩)) = R at HR ⊢
      go_enter Tryd.func23, Tryd.ntmps23
      go_wp2_with (first | (go_at_call 30; (try rw [hw1]); refine VL.mono ?_; rintro e w2 ⟨rfl, hb⟩; obtain ⟨g0, g1, g2, g3, g4⟩ := cells w2 (hB.trans (hb.mono hB.size)) (hb.block _ hlt)))
      go_ret
      exact ⟨ret_bool HR.out.symm, hB.trans (hb.mono hB.size)⟩
    | false =>
      by_cases hs : tag.size ≤ 1000
      · have hs' : ¬ (1000 : Int) < tag.size := by omega
        have HT : Hid (tagOk rv tag = true) := by show _ = _; unfold tagOk; rw [hv, he, decide_eq_true hs]; rfl
        have TX : Hid (∀ W, Below w.heap.size w W → Calls Tryd.prog 31 #[.string text] W fun e w' => e = .returned (.bool (textP rit text)) ∧ Below W.heap.size W w') := fun W _ => rtextG_any Lo text W hx
        obtain ⟨R, hR⟩ : ∃ R, (tagOk rv tag && (kidsOk kids n && kindOk rit ⟨kind, tag, text, q, kids, c, plain⟩)) = R := ⟨_, rfl⟩
        rw [hR]
        have HR : Hid ((kidsOk kids n && kindOk rit ⟨kind, tag, text, q, kids, c, plain⟩) = R) := by show _ = _; rw [← hR, HT.out]; rfl
        clear hR HT hv Lo hx
        go_enter Tryd.func23, Tryd.ntmps23
        go_wp2_with (first | (go_at_call 30; (try rw [hw1]); refine VL.mono ?_; rintro e w2 ⟨rfl, hb⟩; obtain ⟨g0, g1, g2, g3, g4⟩ := cells w2 (hB.trans (hb.mono hB.size)) (hb.block _ hlt)))
        have hB2 := hB.trans (hb.mono hB.size)
        have hI2 := his.on hB2
        clear VL cells f0 f1 f2 f3 f4 hb b0
        go_loop [5] (fun ri => ∃ i : Nat, i ≤ kids.length ∧ ri = .int .i64 i ∧ Hid (∀ j, j < i → 0 ≤ iAt kids j ∧ iAt kids j < n)) (fun ri => kids.length - (RowKit.intOf ri).toNat)
        case atStart => exact ⟨0, Nat.zero_le _, rfl, fun j hj => by omega⟩
        case round =>
          obtain ⟨i, hi, rfl, h1⟩ := hrel
          by_cases hlt2 : i < kids.length
          · obtain ⟨b, o, rfl, hc⟩ := hI2.at (by omega)
            have c1 := hc i hlt2
            have hlt3 : (i : Int) < kids.length := by omega
            by_cases hlo : iAt kids i < 0
            · have HF : Hid (R = false) := by show _ = _; rw [← HR.out, kidsOk_no hlt2 (by omega)]; rfl
              generalize iAt kids i = z at c1 hlo
              clear hc h1 HR TX hI2
              go_wp2
              go_ret
              exact ⟨ret_bool HF.out.symm, hB2⟩
            · by_cases hhi : n ≤ iAt kids i
              · have HF : Hid (R = false) := by show _ = _; rw [← HR.out, kidsOk_no hlt2 (by omega)]; rfl
                generalize iAt kids i = z at c1 hlo hhi
                clear hc h1 HR TX hI2
                go_wp2
                go_ret
                exact ⟨ret_bool HF.out.symm, hB2⟩
              · have HN : Hid (∀ j, j < i + 1 → 0 ≤ iAt kids j ∧ iAt kids j < n) := fun j hj => by
                  by_cases e : j = i
                  · subst e; omega
                  · exact h1.out j (by omega)
                generalize iAt kids i = z at c1 hlo hhi
                clear hc h1 HR TX hI2
                go_wp2
                go_round
                case rel => exact ⟨i + 1, by omega, by go_num, HN.out⟩
                case measure => simp [RowKit.intOf]; omega
          · obtain rfl : i = kids.length := by omega
            have HK : Hid (kindOk rit ⟨kind, tag, text, q, kids, c, plain⟩ = R) := by show _ = _; rw [← HR.out, kidsOk_yes h1.out]; rfl
            clear h1 HR hI2
            unfold kindOk at HK
            dsimp only at HK
            have TX2 := TX.out w2 hB2
            clear TX
            by_cases k1 : kind = 1
            · subst k1
              rw [if_pos rfl] at HK
              by_cases h0 : kids.length = 0
              · rw [decide_eq_true h0, Bool.true_and] at HK
                have h0' : kids = [] := List.eq_nil_of_length_eq_zero h0
                subst h0'
                go_wp2_with (first | (go_at_call 31; refine TX2.mono ?_; rintro e w3 ⟨rfl, hb3⟩))
                go_ret
                exact ⟨ret_bool HK.out, hB2.trans (hb3.mono hB2.size)⟩
              · rw [decide_eq_false h0, Bool.false_and] at HK
                have h0' : ((kids.length : Int) == 0) = false := by simp; intro e; exact h0 (by rw [e]; rfl)
                go_wp2
                go_ret
                exact ⟨ret_bool HK.out, hB2⟩
            · have k1' : (kind == 1) = false := by simpa using k1
              rw [if_neg k1] at HK
              by_cases k2 : kind = 2
              · subst k2
                rw [if_pos rfl] at HK
                cases ht2 : text.toList.isEmpty with
                | true =>
                  rw [ht2] at HK
                  go_wp2
                  go_ret
                  exact ⟨ret_bool HK.out, hB2⟩
                | false =>
                  rw [ht2] at HK
                  go_wp2
                  go_ret
                  exact ⟨ret_bool HK.out, hB2⟩
              · have k2' : (kind == 2) = false := by simpa using k2
                rw [if_neg k2] at HK
                by_cases k3 : kind = 3
                · subst k3
                  rw [if_pos rfl] at HK
                  cases ht2 : text.toList.isEmpty with
                  | false =>
                    rw [ht2] at HK
                    go_wp2
                    go_ret
                    exact ⟨ret_bool HK.out, hB2⟩
                  | true =>
                    rw [ht2] at HK
                    cases plain with
                    | true =>
                      go_wp2
                      go_ret
                      exact ⟨ret_bool HK.out, hB2⟩
                    | false =>
                      have hmod : (kids.length : Int).tmod 2 = ((kids.length % 2 : Nat) : Int) := by rw [Int.tmod_eq_emod_of_nonneg (by omega)]; omega
                      have hm2 : ((kids.length : Int) % 2 == 0) = decide (kids.length % 2 = 0) := by rw [Bool.eq_iff_iff, beq_iff_eq, decide_eq_true_iff]; omega
                      go_wp2
                      go_ret
                      refine ⟨ret_bool ?_, hB2⟩
                      rw [← HK.out]
                      simp only [Bool.not_false, Bool.true_and]
                      all_goals first | exact hm2 | (rw [Bool.eq_iff_iff, beq_iff_eq, decide_eq_true_iff]; omega)
                · have k3' : (kind == 3) = false := by simpa using k3
                  rw [if_neg k3] at HK
                  go_wp2
                  go_ret
                  exact ⟨ret_bool HK.out, hB2⟩
      · have hs' : (1000 : Int) < tag.size := by omega
        have HR : Hid ((tagOk rv tag && (kidsOk kids n && kindOk rit ⟨kind, tag, text, q, kids, c, plain⟩)) = false) := by show _ = _; unfold tagOk; rw [hv, he, decide_eq_false hs]; rfl
        generalize (tagOk rv tag && (kidsOk kids n && kindOk rit ⟨kind, tag, text, q, kids, c, plain⟩)) = R at HR ⊢
        go_enter Tryd.func23, Tryd.ntmps23
        go_wp2_with (first | (go_at_call 30; (try rw [hw1]); refine VL.mono ?_; rintro e w2 ⟨rfl, hb⟩; obtain ⟨g0, g1, g2, g3, g4⟩ := cells w2 (hB.trans (hb.mono hB.size)) (hb.block _ hlt)))
        go_ret
        exact ⟨ret_bool HR.out.symm, hB.trans (hb.mono hB.size)⟩
end Go.Proofs.YtjfeamfchgcblaaDoor
