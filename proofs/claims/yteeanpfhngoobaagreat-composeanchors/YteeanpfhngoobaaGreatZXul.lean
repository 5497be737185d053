/- ComposeGraphs, in the world: any row of events that is not empty. -/
import Derived.Test.YteeanpfhngoobaaGreatZXuk
import Derived.Test.YteeanpfhngoobaaGreatZXro
set_option linter.all false
set_option maxRecDepth 100000
namespace Go.Proofs.YteeanpfhngoobaaGreat.Xk
open Go.RowKit

theorem flat_len : ∀ L : List Ev, (Go.Proofs.YteeanpfhngoobaaGreat.flat L).length = L.length * 6
  | [] => rfl
  | x :: L => by
    have := flat_len L
    show (x.c ++ Go.Proofs.YteeanpfhngoobaaGreat.flat L).length = _
    rw [List.length_append, this]
    simp [Ev.c]
    omega
/-- A row of events that came in lies in the run's memory. -/
theorem lay_events {w : World} {b o c : Nat} {L : List Ev} (hcl : L.length ≤ c) (hb : b < w.heap.size) (hat : ∀ (i : Nat) (v : Value), (Go.Proofs.YteeanpfhngoobaaGreat.flat L)[i]? = some v → w.cell? ⟨b, o + i, none⟩ = some v) :
    ∃ (m : Nat → MB) (h : HP), WR w.heap.size w m h w ∧ EvAt h h.nb (.slice (some ⟨0, 0, none⟩) L.length c) L ∧ okT m h.nb (.slice (some ⟨0, 0, none⟩) L.length c) ∧ cT m (.slice (some ⟨0, 0, none⟩) L.length c) = .slice (some ⟨b, o, none⟩) L.length c := by
  have hfl := flat_len L
  have hsc : ∀ v ∈ Go.Proofs.YteeanpfhngoobaaGreat.flat L, scal v = true := fun v hv => flat_scal L v hv
  have hcvs : ∀ (m : Nat → MB) v, scal v = true → cv m v = v := fun m v hv => by cases v <;> first | rfl | (simp [scal] at hv)
  obtain ⟨he, hw⟩ := (WR.none w).layRo (cells := Go.Proofs.YteeanpfhngoobaaGreat.flat L) (x := ⟨b, o, o + c * 6, 6⟩) (fun v hv => by
    have := hsc v hv
    cases v <;> first | exact ⟨trivial, rfl⟩ | (simp [scal] at this)) hb (by show o + (Go.Proofs.YteeanpfhngoobaaGreat.flat L).length ≤ o + c * 6; omega) (fun i v hv => by
    rw [hcvs _ v (hsc v (List.mem_of_getElem? hv))]
    exact hat i v hv)
  have hm : upd (fun _ => (⟨0, 0, 0, 0⟩ : MB)) (⟨0, []⟩ : HP).nb ⟨b, o, o + c * 6, 6⟩ 0 = ⟨b, o, o + c * 6, 6⟩ := upd_same _ _
  refine ⟨_, _, hw, .inr ⟨0, 0, c, rfl, ?_, ?_⟩, ?_, ?_⟩
  · show 0 < 0 + 1
    omega
  · unfold HP.read
    rw [show ((⟨0, []⟩ : HP).push ⟨Go.Proofs.YteeanpfhngoobaaGreat.flat L, 0, true⟩).get 0 = some ⟨Go.Proofs.YteeanpfhngoobaaGreat.flat L, 0, true⟩ from get_push_new _]
    dsimp only
    rw [if_pos ⟨rfl, by omega⟩, List.drop_zero, List.take_of_length_le (by omega)]
  · refine ⟨?_, ?_, hcl, ?_⟩
    · show 0 < 0 + 1
      omega
    · rw [hm]
      exact (by decide : 0 < 6)
    · rw [hm]
      show o + 0 + c * 6 ≤ o + c * 6
      omega
  · show Value.slice (some (ca _ 0 0)) L.length (room _ 0) = _
    unfold ca room
    rw [hm]
    show Value.slice (some ⟨b, o + 0, none⟩) L.length ((o + c * 6 - (o + 0)) / 6) = _
    rw [Nat.add_zero, Nat.add_sub_cancel_left, Nat.mul_div_cancel _ (by decide)]
theorem graphs_full (w : World) (b o : Nat) (L : List Ev) (c : Nat) (hlm : L.length ≤ maxLen) (hcl : L.length ≤ c) (hb : b < w.heap.size) (hat : ∀ (i : Nat) (v : Value), (Go.Proofs.YteeanpfhngoobaaGreat.flat L)[i]? = some v → w.cell? ⟨b, o + i, none⟩ = some v) (depth nodes : Int) :
    Calls Tryz.prog 3 #[.slice (some ⟨b, o, none⟩) L.length c, .int .i64 depth, .int .i64 nodes] w fun e w' => e = .returned (.bool true) ∧ Below w.heap.size w w' := by
  obtain ⟨m, h, hw, he, hok, hct⟩ := lay_events hcl hb hat
  have A := (graphs_r (depth := depth) (nodes := nodes) he hlm).2 w.heap.size w m w hw (fun u hu => by
    simp only [List.mem_cons, List.not_mem_nil, or_false] at hu
    rcases hu with rfl | rfl | rfl
    · exact hok
    · trivial
    · trivial)
  rw [show (([.slice (some ⟨0, 0, none⟩) L.length c, .int .i64 depth, .int .i64 nodes] : List Value).map (cT m)).toArray = #[.slice (some ⟨b, o, none⟩) L.length c, .int .i64 depth, .int .i64 nodes] by simp only [List.map_cons, List.map_nil, hct]; rfl] at A
  refine A.mono fun e w' ⟨m', u, h', e1, e2, e3, e4, e5, e6, e7⟩ => ?_
  subst e6
  exact ⟨e3, e5.bel⟩
theorem es_flat {w : World} {b o : Nat} {L : List Ev} (h : ∀ (j : Nat) (x : Ev), L[j]? = some x → At6 w b (o + j * 6) x) : ∀ (i : Nat) (v : Value), (Go.Proofs.YteeanpfhngoobaaGreat.flat L)[i]? = some v → w.cell? ⟨b, o + i, none⟩ = some v := fun i v hv => by
  have hlt := (List.getElem?_eq_some_iff.1 hv).1
  rw [flat_len] at hlt
  have hj : i / 6 < L.length := by omega
  obtain ⟨x, hx⟩ : ∃ x, L[i / 6]? = some x := ⟨_, List.getElem?_eq_getElem hj⟩
  have hf := flat_at L (i / 6) x hx
  have hm : i % 6 < 6 := Nat.mod_lt _ (by decide)
  have he : (evC x)[i % 6]? = some v := by
    rw [← hf, List.getElem?_take_of_lt hm, List.getElem?_drop, show i / 6 * 6 + i % 6 = i by omega]
    exact hv
  obtain ⟨a0, a1, a2, a3, a4, a5⟩ := h _ _ hx
  rw [show o + i = o + i / 6 * 6 + i % 6 by omega]
  generalize i % 6 = r at hm he ⊢
  match r, hm, he with
  | 0, _, he => cases he; exact a0
  | 1, _, he => cases he; exact a1
  | 2, _, he => cases he; exact a2
  | 3, _, he => cases he; exact a3
  | 4, _, he => cases he; exact a4
  | 5, _, he => cases he; exact a5
theorem graphs_none (w : World) (depth nodes : Int) : Calls Tryz.prog 3 #[.slice none 0 0, .int .i64 depth, .int .i64 nodes] w fun e w' => e = .returned (.bool true) ∧ Below w.heap.size w w' := by
  have A := (graphs_r (h := ⟨0, []⟩) (v := .slice none 0 0) (L := []) (depth := depth) (nodes := nodes) (.inl ⟨rfl, rfl⟩) (by unfold maxLen; simp)).2 w.heap.size w _ w (WR.none w) (fun u hu => by
    simp only [List.mem_cons, List.not_mem_nil, or_false] at hu
    rcases hu with rfl | rfl | rfl
    · exact ⟨rfl, rfl⟩
    · trivial
    · trivial)
  refine A.mono fun e w' ⟨m', u, h', e1, e2, e3, e4, e5, e6, e7⟩ => ?_
  subst e6
  exact ⟨e3, e5.bel⟩
/-- An argument that is a slice lies at a plain address. -/
theorem slice_plain {w : World} {base : Nat} {t e : TypeId} {a : Option Addr} {len cap : Nat} (ht : Tryz.prog.underlying t = some (.slice e)) (h : Value.okWide Tryz.prog w .any base t (.slice a len cap)) : (a = none ∧ len = 0 ∧ cap = 0) ∨ ∃ b o, a = some ⟨b, o, none⟩ ∧ b < w.heap.size := by
  simp only [Value.okWide, ht, Cell.okWide, Cell.ok] at h
  cases a with
  | none =>
    left
    cases len with
    | zero => cases cap with
      | zero => exact ⟨rfl, rfl, rfl⟩
      | succ c => simp at h
    | succ n => simp at h
  | some a =>
    right
    obtain ⟨b, o, sp⟩ := a
    simp at h
    obtain ⟨-, -, -, hs, row, cells, hsh, -⟩ := h
    dsimp only at hs
    subst hs
    refine ⟨b, o, rfl, ?_⟩
    unfold World.shape? at hsh
    split at hsh
    · rename_i c el x hc
      exact (Array.getElem?_eq_some_iff.1 hc).1
    · cases hsh
theorem graphs_law (w : World) (q : Option Addr) (L : List Ev) (c : Nat) (hlm : L.length ≤ maxLen) (hcl : L.length ≤ c) (hE : Es w q L) (hq : (q = none ∧ L.length = 0 ∧ c = 0) ∨ ∃ b o, q = some ⟨b, o, none⟩ ∧ b < w.heap.size) (depth nodes : Int) :
    Calls Tryz.prog 3 #[.slice q L.length c, .int .i64 depth, .int .i64 nodes] w fun e w' => e = .returned (.bool true) ∧ Below w.heap.size w w' := by
  rcases hq with ⟨rfl, h0, rfl⟩ | ⟨b, o, rfl, hb⟩
  · rw [h0]
    exact graphs_none w depth nodes
  · refine graphs_full w b o L c hlm hcl hb ?_ depth nodes
    rcases hE with rfl | ⟨b', o', e, h⟩
    · intro i v hv
      simp [Go.Proofs.YteeanpfhngoobaaGreat.flat] at hv
    · cases e
      exact es_flat h
end Go.Proofs.YteeanpfhngoobaaGreat.Xk
