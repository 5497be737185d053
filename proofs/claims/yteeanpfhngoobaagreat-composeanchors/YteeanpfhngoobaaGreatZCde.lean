/- The program's Depth and End, over the events that are told. -/
import Derived.Test.YteeanpfhngoobaaGreatZCod
set_option linter.unusedVariables false
set_option linter.unusedSimpArgs false
set_option maxRecDepth 100000
namespace Go.Proofs.YteeanpfhngoobaaGreat
open Go.RowKit Go.Shelf
attribute [local go_sem] Oper.semAt_some

theorem maxD_next {T : List (Ev × Nat)} {i : Nat} {x : Ev × Nat} (h : T[i]? = some x) : maxD (T.take (i + 1)) 0 = max (maxD (T.take i) 0) x.2 := by
  rw [List.take_add_one, h, maxD_app]; rfl
def BxD (s : Nat) (T : List (Ev × Nat)) (i : Nat) (W : World) : Prop := i ≤ T.length ∧ Boxed W s 3 (.int .i64 (maxD (T.take i) 0 : Nat))

theorem from_22 (p : Option Addr) (len cap m : Nat) (hm : m ≤ len) (hl : len ≤ cap) (w2 : World) :
    (Instr.slice 22 (.slice p len cap) (some (.int .i64 m)) none none).run Tryz.prog w2 = .ok (.slice (if cap = m then p else p.map (·.add (m * 6))) (len - m) (cap - m)) w2 := by
  have h0 : (m : Int) ≤ len := by omega
  have h1 : (len : Int) ≤ cap := by omega
  have u := Tryz.underlying22
  have z := Tryz.sizeOf46
  simp [go_sem, h0, h1]
theorem Es.from {w : World} {p : Option Addr} {L : List Ev} (h : Es w p L) (cap m : Nat) (hl : L.length ≤ cap) : Es w (if cap = m then p else p.map (·.add (m * 6))) (L.drop m) := by
  split
  · exact .inl (List.drop_eq_nil_of_le (by omega))
  · rcases h with rfl | ⟨b, o, rfl, hc⟩
    · exact .inl (by simp)
    · rw [Option.map_some, add_plain]
      exact Es.drop (.inr ⟨b, o, rfl, hc⟩) m
theorem fst0_none : ∀ (T : List (Ev × Nat)), (∀ x ∈ T, x.2 ≠ 0) → fst0 T = none := by
  intro T
  induction T with
  | nil => intro _; rfl
  | cons y T ih => intro h; rw [fst0, if_neg (h y (by simp)), ih (fun x hx => h x (by simp [hx]))]; rfl
theorem fst0_at : ∀ (T : List (Ev × Nat)) (i : Nat) (x : Ev × Nat), T[i]? = some x → x.2 = 0 → (∀ y ∈ T.take i, y.2 ≠ 0) → fst0 T = some (i + 1) := by
  intro T
  induction T with
  | nil => intro i x h; cases h
  | cons y T ih =>
    intro i x h hx hy
    cases i with
    | zero => cases h; rw [fst0, if_pos hx]
    | succ i =>
      rw [fst0, if_neg (hy y (by simp)), ih i x (by simpa using h) hx (fun z hz => hy z (by simp [hz]))]
      rfl
def BxE (s j0 : Nat) (T : List (Ev × Nat)) (i : Nat) (W : World) : Prop := i ≤ T.length ∧ Boxed W s 3 (.int .i64 0) ∧ Boxed W (s + 1) 3 (.int .i64 ((j0 + i : Nat) : Int)) ∧ ∀ x ∈ T.take i, x.2 ≠ 0
def BxY (w : World) (V : Nat) (c : Code) (i : Nat) (W : World) : Prop := c = .ret ∧ Boxed W w.heap.size 3 (.int .i64 (V : Nat)) ∧ Below w.heap.size w W
theorem BxY.own {w : World} {V : Nat} (c : Code) {B : Nat} (hB : w.heap.size ≤ B) : OwnFrom B (BxY w V c) := by
  rintro s W W' row ⟨h1, h2, h3⟩ hgr hr
  exact ⟨h1, boxed_own' h2 hgr hr, h3.grown hgr h3.size (fun k e => by have := (hr k e).1; omega)⟩

end Go.Proofs.YteeanpfhngoobaaGreat
