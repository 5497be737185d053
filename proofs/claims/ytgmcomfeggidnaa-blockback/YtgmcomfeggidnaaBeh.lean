/- What stands in a line behind so many blanks. -/
import Derived.Test.YtgmcomfeggidnaaRpt
import Derived.Test.YtgmcomfeggidnaaIdn
import Derived.Deep.RegionHeldLaw
set_option linter.unusedVariables false
set_option linter.unusedSimpArgs false
namespace Go.Proofs.Ytgmcomfeggidnaa
open Go.RowKit

def behP (ind i : Int) (t : List Int) : List Int := List.replicate (i - ind).toNat 32 ++ t

/-- A piece: it lies below n₀, or in a block of ints that was made since. -/
def Pcw (n₀ : Nat) (W : World) (q : Option Addr) (t : List Int) : Prop := ∀ a, q = some a → 0 < t.length → a.block < n₀ ∨ ∃ cur f, W.heap[a.block]? = some (.cells cur 3 f)

/-- In a region that draws: an append whose run is known. -/
theorem step_append_run {P : Program} {ops : Array Oper} {o : Oper} {a : Act} {w w' : World} {K : Act → World → Prop} {Q : Exit → Act → World → Prop} {E : Prop} (hgd : o.guard = none) (d s : Operand) (t : TypeId)
    (ho : o.op = .call { callee := .builtin .append, args := #[d, s], argTypes := #[t, t] }) {u y v : Value} (hd : a.eval d = u) (hs : a.eval s = y) (hrun : (Builtin.append_ #[t, t] o.type #[u, y]).run P w = .ok v w')
    (h : K (a.put o.dst v) w') : if Region.wanted o (yielded ops a.tmps) = true then Oper.wp P o a w K Q else E := by
  have hw : Region.wanted o (yielded ops a.tmps) = true := by simp [Region.wanted, hgd]
  rw [if_pos hw]
  unfold Oper.wp
  simp [execOp, ho, resolve, invoke, builtin, hd, hs, hrun, Result.andThen]
  exact h

theorem owns_rep {w : World} {g n base : Nat} (hg : w.heap[g]? = some (.cells (rwR n n).toArray 3 (0, 0))) (hb : base ≤ g) (hn : n ≤ 2000) : Owns w base (.slice (some ⟨g, 0, none⟩) n n) (List.replicate n 32) := by
  refine ⟨by simp, .inr ⟨g, n, (rwR n n).toArray, by simp, hb, hg, by simp, by unfold maxLen; omega, by simp [rwR], ?_⟩⟩
  simp [rwR]

theorem owns_pcw {w : World} {base : Nat} {q : Option Addr} {k c : Nat} {t : List Int} (h : Owns w base (.slice q k c) t) (n₀ : Nat) : Pcw n₀ w q t := by
  intro a e hl
  obtain ⟨-, ⟨e1, e2⟩ | ⟨g, cap, cur, e1, -, hg, -⟩⟩ := h
  · cases e1; cases e
  · cases e1; cases e; exact .inr ⟨_, _, hg⟩

set_option maxRecDepth 100000 in
set_option maxHeartbeats 1000000 in
theorem behind_text (i ind : Int) (p : Option Addr) (len cap : Nat) (w : World) (h0 : 0 ≤ i) (h1 : i ≤ 100000) (h2 : 0 ≤ ind) (h3 : ind ≤ 100000) (hi : i ≤ ind) :
    Calls Try.prog 37 #[.agg #[.int .i64 i, .slice p len cap], .int .u64 ind] w fun e w' => e = .returned (.slice p len cap) ∧ Below w.heap.size w w' := by
  go_enter Try.func37, Try.ntmps37
  go_wp2
  go_ret
  exact ⟨rfl, (Below.refl _ w).alloc (Nat.le_refl _) _⟩

set_option maxRecDepth 100000 in
set_option maxHeartbeats 2000000 in
theorem behind_more (d : Nat) (ind : Int) (p : Option Addr) (t : List Int) (cap : Nat) (w : World) (h2 : 0 ≤ ind) (h3 : ind ≤ 100000) (hd : 1 ≤ d) (hd2 : d ≤ 2000) (ht : t.length ≤ 1000) (hI : Is w p t) :
    Calls Try.prog 37 #[.agg #[.int .i64 (ind + d), .slice p t.length cap], .int .u64 ind] w fun e w' => ∃ v, e = .returned v ∧ Owns w' w.heap.size v (List.replicate d 32 ++ t) ∧ Below w.heap.size w w' := by
  have e1 : ¬ ind + (d : Int) ≤ ind := by omega
  have e2 : ind + (d : Int) - ind = d := by omega
  have e3 : 0 ≤ ind + (d : Int) := by omega
  have e4 : ind + (d : Int) ≤ 200000 := by omega
  obtain ⟨A0, hA0⟩ : ∃ A0, w.alloc (.cells #[.int .i64 (ind + d), .slice p t.length cap] 44) = A0 := ⟨_, rfl⟩
  have hb0 : Below w.heap.size w A0 := by rw [← hA0]; exact (Below.refl _ w).alloc (Nat.le_refl _) _
  have hs0 : A0.heap.size = w.heap.size + 1 := by rw [← hA0]; simp
  have kk := box2 (w := w) (w2 := A0) (a := .int .i64 (ind + d)) (b := .slice p t.length cap) (t := 44) (by rw [hA0]; exact Below.refl _ _)
  obtain ⟨k0, k1⟩ := kk
  obtain ⟨A1, hA1⟩ : ∃ A1, A0.drew.alloc (.cells #[.int .i64 32] 3) = A1 := ⟨_, rfl⟩
  have hb1 : Below A0.heap.size A0 A1 := by rw [← hA1]; exact ((Below.refl _ A0).drew).alloc (Nat.le_refl _) _
  have hs1 : A1.heap.size = w.heap.size + 2 := by rw [← hA1]; simp [hs0]
  have hc : A1.cell? ⟨A0.heap.size, 0, none⟩ = some (.int .i64 32) := by
    rw [← hA1]
    have := World.alloc_heap_new A0.drew (.cells #[.int .i64 32] 3)
    simp only [show A0.drew.heap.size = A0.heap.size from rfl] at this
    show (match (A0.drew.alloc (.cells #[.int .i64 32] 3)).heap[A0.heap.size]? with | some (.cells c _ _) => c[0]? | _ => none) = _
    rw [this]
    rfl
  have RP := Repeat_any d ⟨A0.heap.size, 0, none⟩ A1 hd hd2 hc
  rw [hs0, hs1] at RP
  have k1' : A1.cell? ⟨w.heap.size, 1, none⟩ = some (.slice p t.length cap) := (hb1.cell (p := ⟨w.heap.size, 1, none⟩) (by show w.heap.size < _; omega)).trans k1
  have hI1 : Is A1 p t := (hI.on hb0).on hb1
  have BB : Hid (Below w.heap.size w A1) := hb0.trans (hb1.mono (by omega))
  clear hb0 hb1 hc
  go_enter Try.func37, Try.ntmps37
  go_wp2
  have k1d : A0.drew.cell? ⟨w.heap.size, 1, none⟩ = some (.slice p t.length cap) := k1
  go_region_held_law (fun w' => w'.cell? ⟨w.heap.size, 1, none⟩ = some (.slice p t.length cap)) (first | exact k3 | exact k2 | exact k1' | exact k1d | go_keep)
    (first
      | (go_at_call 48; refine RP.mono ?_; rintro e w2 ⟨rfl, hg2, hb2⟩; have k2 := (hb2.cell (p := ⟨w.heap.size, 1, none⟩) (by show w.heap.size < _; omega)).trans k1'; obtain ⟨v3, w3, AP, ho3, hgr3⟩ := pushL cap (owns_rep (base := w.heap.size) hg2 (by omega) hd2) (by have := hb2.size; omega) (by simp; omega) (hI1.on (by rw [hs1]; exact hb2)); have k3 := (hgr3.cell_far ⟨w.heap.size, 1, none⟩ (by show w.heap.size < _; have := hb2.size; omega) (by simp [Value.ownBlock])).trans k2; have hb3 := owns_below (owns_rep (base := w.heap.size) hg2 (by omega) hd2) hgr3 (Nat.le_refl _) (by have := hb2.size; omega))
      | (refine step_append_run rfl (.tmp 25) (.tmp 27) 22 rfl (by go_simp) (by go_simp) AP ?_))
  simp only [List.getElem_toArray, List.getElem_cons_succ, List.getElem_cons_zero, Act.put, List.setIfInBounds_toArray, List.set_cons_succ, List.set_cons_zero]
  obtain ⟨va, vk, vc, rfl⟩ := ownsRow_form ho3
  go_wp2
  go_ret
  exact ⟨_, rfl, ho3, (BB.out.trans (hb2.mono (by omega))).trans hb3⟩

/-- What behind answers: a piece. -/
theorem behind_pc (i ind : Int) (p : Option Addr) (t : List Int) (cap : Nat) (w : World) (h0 : 0 ≤ i) (h1 : i ≤ 1000) (h2 : 0 ≤ ind) (h3 : ind ≤ 2000) (ht : t.length ≤ 1000) (hc : t.length ≤ cap) (hm : cap ≤ maxLen) (hI : Is w p t) (n₀ : Nat) (hn : ∀ a, p = some a → 0 < t.length → a.block < n₀) :
    Calls Try.prog 37 #[.agg #[.int .i64 i, .slice p t.length cap], .int .u64 ind] w fun e w' => ∃ q c, e = .returned (.slice q (behP ind i t).length c) ∧ (behP ind i t).length ≤ c ∧ c ≤ maxLen ∧ Is w' q (behP ind i t) ∧ Pcw n₀ w' q (behP ind i t) ∧ Below w.heap.size w w' := by
  by_cases hi : i ≤ ind
  · refine (behind_text i ind p t.length cap w h0 (by omega) h2 (by omega) hi).mono ?_
    rintro e w' ⟨rfl, hb⟩
    have e : behP ind i t = t := by unfold behP; rw [show (i - ind).toNat = 0 by omega]; rfl
    rw [e]
    exact ⟨p, cap, rfl, hc, hm, hI.on hb, fun a ha hl => .inl (hn a ha hl), hb⟩
  · obtain ⟨d, rfl⟩ : ∃ d : Nat, i = ind + d := ⟨(i - ind).toNat, by omega⟩
    refine (behind_more d ind p t cap w h2 (by omega) (by omega) (by omega) ht hI).mono ?_
    rintro e w' ⟨v, rfl, ho, hb⟩
    have e : behP ind (ind + d) t = List.replicate d 32 ++ t := by unfold behP; rw [show (ind + (d : Int) - ind).toNat = d by omega]
    rw [e]
    obtain ⟨q, k, c, rfl⟩ := ownsRow_form ho
    obtain ⟨r1, r2, r3, r4⟩ := is_of_row ho
    subst r2
    exact ⟨q, c, rfl, r3, r4, r1, owns_pcw ho n₀, hb⟩
end Go.Proofs.Ytgmcomfeggidnaa
