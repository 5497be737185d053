/- What PlainLetters lays: its tails, the text with a tail behind it, and how a region that draws holds an append. -/
import Derived.Test.YtdpeiggppemmcaaLep
import Derived.Test.YtdpeiggppemmcaaLaw
import Derived.Deep.AppendLies
import Derived.Deep.Quiet
import Derived.OrdersHeld
set_option linter.unusedVariables false
set_option linter.unusedSimpArgs false
namespace Go.Proofs.Ytdpeiggppemmcaa
open Go.RowKit Go.Shelf

theorem new_at (W : World) (o : Obj) {k : Nat} (h : W.heap.size = k) : (W.alloc o).heap[k]? = some o := by subst h; exact World.alloc_heap_new W o
theorem old_at {W : World} {o x : Obj} {k : Nat} (h : W.heap[k]? = some x) : (W.alloc o).heap[k]? = some x := (Below.heap_alloc W o k (Array.getElem?_eq_some_iff.1 h).1).trans h

/-- The world with the tails. -/
def tW (W : World) : World := (((((((W.alloc (.cells #[.int .i64 58] 3)).alloc (.cells #[.int .i64 58, .int .i64 32, .int .i64 120] 3)).alloc (.cells #[.int .i64 32, .int .i64 58] 3)).alloc (.cells #[.int .i64 32, .int .i64 35, .int .i64 120] 3)).alloc (.cells #[.int .i64 44, .int .i64 120] 3)).alloc (.cells #[.int .i64 35, .int .i64 120] 3)).alloc (.cells #[.int .i64 58, .int .i64 120] 3)).alloc (.cells #[.slice none 0 0, .slice (some ⟨W.heap.size, 0, none⟩) 1 1, .slice (some ⟨W.heap.size + 1, 0, none⟩) 3 3, .slice (some ⟨W.heap.size + 1 + 1, 0, none⟩) 2 2, .slice (some ⟨W.heap.size + 1 + 1 + 1, 0, none⟩) 3 3, .slice (some ⟨W.heap.size + 1 + 1 + 1 + 1, 0, none⟩) 2 2, .slice (some ⟨W.heap.size + 1 + 1 + 1 + 1 + 1, 0, none⟩) 2 2, .slice (some ⟨W.heap.size + 1 + 1 + 1 + 1 + 1 + 1, 0, none⟩) 2 2] 22)
def tQ (W : World) : Nat → Option Addr
  | 0 => none
  | k + 1 => some ⟨W.heap.size + k, 0, none⟩
theorem tails (W : World) : Below W.heap.size W (tW W) ∧ ∀ k, k < 8 → (tW W).cell? ⟨W.heap.size + 1 + 1 + 1 + 1 + 1 + 1 + 1, k, none⟩ = some (.slice (tQ W k) (tlP k).length (tlP k).length) ∧ Is (tW W) (tQ W k) (tlP k) := by
  have b0 : (tW W).heap[W.heap.size]? = some (.cells #[.int .i64 58] 3) := old_at (old_at (old_at (old_at (old_at (old_at (old_at (new_at W (.cells #[.int .i64 58] 3) (k := W.heap.size) (by simp))))))))
  have b1 : (tW W).heap[W.heap.size + 1]? = some (.cells #[.int .i64 58, .int .i64 32, .int .i64 120] 3) := old_at (old_at (old_at (old_at (old_at (old_at (new_at (W.alloc (.cells #[.int .i64 58] 3)) (.cells #[.int .i64 58, .int .i64 32, .int .i64 120] 3) (k := W.heap.size + 1) (by simp)))))))
  have b2 : (tW W).heap[W.heap.size + 1 + 1]? = some (.cells #[.int .i64 32, .int .i64 58] 3) := old_at (old_at (old_at (old_at (old_at (new_at ((W.alloc (.cells #[.int .i64 58] 3)).alloc (.cells #[.int .i64 58, .int .i64 32, .int .i64 120] 3)) (.cells #[.int .i64 32, .int .i64 58] 3) (k := W.heap.size + 1 + 1) (by simp))))))
  have b3 : (tW W).heap[W.heap.size + 1 + 1 + 1]? = some (.cells #[.int .i64 32, .int .i64 35, .int .i64 120] 3) := old_at (old_at (old_at (old_at (new_at (((W.alloc (.cells #[.int .i64 58] 3)).alloc (.cells #[.int .i64 58, .int .i64 32, .int .i64 120] 3)).alloc (.cells #[.int .i64 32, .int .i64 58] 3)) (.cells #[.int .i64 32, .int .i64 35, .int .i64 120] 3) (k := W.heap.size + 1 + 1 + 1) (by simp)))))
  have b4 : (tW W).heap[W.heap.size + 1 + 1 + 1 + 1]? = some (.cells #[.int .i64 44, .int .i64 120] 3) := old_at (old_at (old_at (new_at ((((W.alloc (.cells #[.int .i64 58] 3)).alloc (.cells #[.int .i64 58, .int .i64 32, .int .i64 120] 3)).alloc (.cells #[.int .i64 32, .int .i64 58] 3)).alloc (.cells #[.int .i64 32, .int .i64 35, .int .i64 120] 3)) (.cells #[.int .i64 44, .int .i64 120] 3) (k := W.heap.size + 1 + 1 + 1 + 1) (by simp))))
  have b5 : (tW W).heap[W.heap.size + 1 + 1 + 1 + 1 + 1]? = some (.cells #[.int .i64 35, .int .i64 120] 3) := old_at (old_at (new_at (((((W.alloc (.cells #[.int .i64 58] 3)).alloc (.cells #[.int .i64 58, .int .i64 32, .int .i64 120] 3)).alloc (.cells #[.int .i64 32, .int .i64 58] 3)).alloc (.cells #[.int .i64 32, .int .i64 35, .int .i64 120] 3)).alloc (.cells #[.int .i64 44, .int .i64 120] 3)) (.cells #[.int .i64 35, .int .i64 120] 3) (k := W.heap.size + 1 + 1 + 1 + 1 + 1) (by simp)))
  have b6 : (tW W).heap[W.heap.size + 1 + 1 + 1 + 1 + 1 + 1]? = some (.cells #[.int .i64 58, .int .i64 120] 3) := old_at (new_at ((((((W.alloc (.cells #[.int .i64 58] 3)).alloc (.cells #[.int .i64 58, .int .i64 32, .int .i64 120] 3)).alloc (.cells #[.int .i64 32, .int .i64 58] 3)).alloc (.cells #[.int .i64 32, .int .i64 35, .int .i64 120] 3)).alloc (.cells #[.int .i64 44, .int .i64 120] 3)).alloc (.cells #[.int .i64 35, .int .i64 120] 3)) (.cells #[.int .i64 58, .int .i64 120] 3) (k := W.heap.size + 1 + 1 + 1 + 1 + 1 + 1) (by simp))
  have b7 : (tW W).heap[W.heap.size + 1 + 1 + 1 + 1 + 1 + 1 + 1]? = some (.cells #[.slice none 0 0, .slice (some ⟨W.heap.size, 0, none⟩) 1 1, .slice (some ⟨W.heap.size + 1, 0, none⟩) 3 3, .slice (some ⟨W.heap.size + 1 + 1, 0, none⟩) 2 2, .slice (some ⟨W.heap.size + 1 + 1 + 1, 0, none⟩) 3 3, .slice (some ⟨W.heap.size + 1 + 1 + 1 + 1, 0, none⟩) 2 2, .slice (some ⟨W.heap.size + 1 + 1 + 1 + 1 + 1, 0, none⟩) 2 2, .slice (some ⟨W.heap.size + 1 + 1 + 1 + 1 + 1 + 1, 0, none⟩) 2 2] 22) := new_at (((((((W.alloc (.cells #[.int .i64 58] 3)).alloc (.cells #[.int .i64 58, .int .i64 32, .int .i64 120] 3)).alloc (.cells #[.int .i64 32, .int .i64 58] 3)).alloc (.cells #[.int .i64 32, .int .i64 35, .int .i64 120] 3)).alloc (.cells #[.int .i64 44, .int .i64 120] 3)).alloc (.cells #[.int .i64 35, .int .i64 120] 3)).alloc (.cells #[.int .i64 58, .int .i64 120] 3)) _ (by simp)
  refine ⟨(((((((((Below.refl _ W).alloc (by simp) _)).alloc (by simp <;> omega) _).alloc (by simp <;> omega) _).alloc (by simp <;> omega) _).alloc (by simp <;> omega) _).alloc (by simp <;> omega) _).alloc (by simp <;> omega) _).alloc (by simp <;> omega) _, fun k hk => ?_⟩
  match k, hk with
  | 0, _ => exact ⟨by simp [World.cell?, b7, tQ, tlP], .inl rfl⟩
  | 1, _ => exact ⟨by simp [World.cell?, b7, tQ, tlP], is_of_block (l := [58]) b0⟩
  | 2, _ => exact ⟨by simp [World.cell?, b7, tQ, tlP], is_of_block (l := [58, 32, 120]) b1⟩
  | 3, _ => exact ⟨by simp [World.cell?, b7, tQ, tlP], is_of_block (l := [32, 58]) b2⟩
  | 4, _ => exact ⟨by simp [World.cell?, b7, tQ, tlP], is_of_block (l := [32, 35, 120]) b3⟩
  | 5, _ => exact ⟨by simp [World.cell?, b7, tQ, tlP], is_of_block (l := [44, 120]) b4⟩
  | 6, _ => exact ⟨by simp [World.cell?, b7, tQ, tlP], is_of_block (l := [35, 120]) b5⟩
  | 7, _ => exact ⟨by simp [World.cell?, b7, tQ, tlP], is_of_block (l := [58, 120]) b6⟩
  | k + 8, hk => omega

/-- A slice of the call's own that holds these ints. -/
abbrev Owns (w : World) (base : Nat) (v : Value) (t : List Int) : Prop := w.ownsRow base 3 1 v t.length (t.map (.int .i64))

theorem owns_cells {w : World} {base : Nat} {v : Value} {t : List Int} (h : Owns w base v t) {g : Nat} (hg : v.ownBlock = some g) : base ≤ g ∧ ∃ cur, w.heap[g]? = some (.cells cur 3 (0, 0)) := by
  rcases h.2 with ⟨rfl, -⟩ | ⟨g', cap, cur, rfl, hb, hh, -⟩
  · cases hg
  · cases hg; exact ⟨hb, cur, hh⟩

theorem Owns.read {w : World} {base : Nat} {v : Value} {t : List Int} (h : Owns w base v t) : ∃ q c, v = .slice q t.length c ∧ Is w q t := by
  obtain ⟨q, k, c, rfl⟩ := ownsRow_form h
  obtain ⟨h1, rfl, -, -⟩ := is_of_row h
  exact ⟨q, c, rfl, h1⟩
theorem pushL {w : World} {base : Nat} {v : Value} {xs u : List Int} {q : Option Addr} (c : Nat) (h : Owns w base v xs) (hb : base ≤ w.heap.size) (hn : xs.length + u.length ≤ 8796093022208) (hI : Is w q u) :
    ∃ v' w1, (Builtin.append_ #[22, 22] 22 #[v, .slice q u.length c]).run Try.prog w = .ok v' w1 ∧ Owns w1 base v' (xs ++ u) ∧ w.grownBy w1 v.ownBlock := by
  obtain ⟨i0, hi, hz0, hz1, hz2⟩ := info_parts Try.info3
  cases q with
  | none =>
    have e : u = [] := by
      rcases hI with e | ⟨b, o, e, -⟩
      · exact e
      · cases e
    subst e
    refine ⟨v, w, ?_, by rw [List.append_nil]; exact h, ⟨rfl, rfl, rfl, Nat.le_refl _, fun _ _ _ => rfl⟩⟩
    rcases h.2 with ⟨rfl, -⟩ | ⟨g, cap, cur, rfl, -, hg, hle, -⟩
    · simp [Builtin.append_, run_underlying Try.underlying22, sizeOf, typeInfo, hi, Builtin.lenOf, Builtin.firstCells, loadCells, loadCellsFrom]
    · simp [Builtin.append_, run_underlying Try.underlying22, sizeOf, typeInfo, hi, Builtin.lenOf, Builtin.firstCells, loadCells, loadCellsFrom, hle, storeCells]
  | some a =>
    have hnews : ∀ j z, (u.map (Value.int .i64))[j]? = some z → w.cell? (a.add j) = some z := by
      intro j z hz
      rw [List.getElem?_map] at hz
      cases hj : u[j]? with
      | none => rw [hj] at hz; cases hz
      | some y =>
        rw [hj] at hz
        have hjl : j < u.length := (List.getElem?_eq_some_iff.1 hj).1
        obtain ⟨b, o, e, hc⟩ := hI.at (by omega)
        cases e
        rw [add_plain, hc j hjl]
        simp [iAt, hj] at hz ⊢
        exact hz
    obtain ⟨v', w', hr, ho, hg, -⟩ := run_append_own (P := Try.prog) w base 22 22 3 i0 (.int .i64 0) 1 8 Try.underlying22 hi hz0 hz1 hz2 rfl (by decide) v xs.length (xs.map (.int .i64)) h
      a u.length c (u.map (.int .i64)) (by simp) hnews (by simp [Value.oneCell']) (by unfold maxLen; omega) (by omega) hb
    refine ⟨v', w', hr, ?_, hg⟩
    unfold Owns
    rw [List.map_append, List.length_append]
    exact ho

theorem owns_below {w w1 : World} {base : Nat} {v : Value} {xs : List Int} (h : Owns w base v xs) (hg : w.grownBy w1 v.ownBlock) {n₀ : Nat} (hn : n₀ ≤ base) (hb : base ≤ w.heap.size) : Below n₀ w w1 :=
  (Below.refl n₀ w).grown hg (by omega) (fun k e => Nat.le_trans hn (owns_cells h e).1)

/-- A text, and another one behind it, in memory of one's own. -/
theorem app_two {V : World} {q tq : Option Addr} {t u : List Int} (c c2 : Nat) (hI : Is V q t) (hU : Is V tq u) (hn : t.length ≤ 1000) (hu : u.length ≤ 1000) :
    ∃ v1 V1 v2 V2, (Builtin.append_ #[22, 22] 22 #[.slice none 0 0, .slice q t.length c]).run Try.prog V.drew = .ok v1 V1 ∧ Below V.heap.size V V1 ∧
      (Builtin.append_ #[22, 22] 22 #[v1, .slice tq u.length c2]).run Try.prog V1 = .ok v2 V2 ∧ Below V.heap.size V V2 ∧ ∃ p k, v2 = .slice p (t ++ u).length k ∧ Is V2 p (t ++ u) := by
  have O0 : Owns V.drew V.heap.size (.slice none 0 0) [] := World.ownsRow_nil _ _ 3 1
  obtain ⟨v1, V1, R1, O1, G1⟩ := pushL c O0 (Nat.le_refl _) (by simp; omega) hI.drew
  rw [List.nil_append] at O1
  have B1 : Below V.heap.size V V1 := (Below.refl _ V).drew.trans (owns_below O0 G1 (Nat.le_refl _) (Nat.le_refl _))
  obtain ⟨v2, V2, R2, O2, G2⟩ := pushL c2 O1 B1.size (by omega) (hU.on B1)
  obtain ⟨p, k, e, h⟩ := O2.read
  exact ⟨v1, V1, v2, V2, R1, B1, R2, B1.trans (owns_below O1 G2 (Nat.le_refl _) B1.size), p, k, e, h⟩

/-- In a region that draws, an append that alone may come up, and whose run is known. -/
theorem anyH_append {P : Program} {ops : Array Oper} {Q : Exit → Act → World → Prop} {S : World → Prop} {i k : Nat} {o : Oper} {listed : Array Bool} {a : Act} {w w' : World} {s x : Operand} {t : TypeId} {u y v : Value}
    (hr : Region.ready .any ops listed = [i]) (hi : ops[i]? = some o) (hgd : o.guard = none) (ho : o.op = .call { callee := .builtin .append, args := #[s, x], argTypes := #[t, t] }) (hs : a.eval s = u) (hx : a.eval x = y)
    (hrun : (Builtin.append_ #[t, t] o.type #[u, y]).run P w = .ok v w') (hS : S w') (h : wpAnyH P .any ops Q S k (listed.setIfInBounds i true) (a.put o.dst v) w') : wpAnyH P .any ops Q S (k + 1) listed a w := by
  refine wpAnyH_all hr (by simp) fun j hj => ?_
  obtain rfl : j = i := by simpa using hj
  unfold wpOp
  simp only [hi]
  have hw : Region.wanted o (yielded ops a.tmps) = true := by unfold Region.wanted; rw [hgd]
  simp only [hw, if_true]
  unfold Oper.wp execOp
  simp [ho, resolve, invoke, builtin, hs, hx, hrun, Result.andThen]
  exact .inl ⟨hS, h⟩

/-- The worlds that hold all that V holds. -/
structure KinT (V : World) where
  val : World
  property : Below V.heap.size V val
theorem kin_call {P : Program} {V : World} {n : KinT V} {f : FuncId} {args : Array Value} {v : Value} (h : Calls P f args n.val fun e w2 => e = .returned v ∧ Below n.val.heap.size n.val w2) :
    Calls P f args n.val fun e w'' => e = .returned v ∧ ∃ m : KinT V, w'' = m.val :=
  h.mono fun e w2 ⟨he, hb⟩ => ⟨he, ⟨w2, n.property.trans (hb.mono n.property.size)⟩, rfl⟩

/-- What is awaited. -/
theorem en_cells (n m : Nat) (hm : m < 8) : (#[Value.int .i64 n, .int .i64 n, .int .i64 n, .int .i64 n, .int .i64 n, .int .i64 ((n : Int) + 2), .int .i64 ((n : Int) + 2), .int .i64 ((n : Int) + 2)] : Array Value)[m]? = some (.int .i64 (enK n false m : Nat)) := by
  match m, hm with
  | 0, _ => rfl
  | 1, _ => rfl
  | 2, _ => rfl
  | 3, _ => rfl
  | 4, _ => rfl
  | 5, _ => rfl
  | 6, _ => rfl
  | 7, _ => rfl
  | m + 8, hm => omega
theorem en_cellsF (n m : Nat) (hm : m < 8) : (#[Value.int .i64 n, .int .i64 n, .int .i64 n, .int .i64 n, .int .i64 n, .int .i64 n, .int .i64 ((n : Int) + 2), .int .i64 ((n : Int) + 2)] : Array Value)[m]? = some (.int .i64 (enK n true m : Nat)) := by
  match m, hm with
  | 0, _ => rfl
  | 1, _ => rfl
  | 2, _ => rfl
  | 3, _ => rfl
  | 4, _ => rfl
  | 5, _ => rfl
  | 6, _ => rfl
  | 7, _ => rfl
  | m + 8, hm => omega
theorem ky_cells (n m : Nat) (hm : m < 8) : (#[Value.int .i64 (-1), .int .i64 n, .int .i64 n, .int .i64 ((n : Int) + 1), .int .i64 (-1), .int .i64 (-1), .int .i64 (-1), .int .i64 (-1)] : Array Value)[m]? = some (.int .i64 (kyK n m)) := by
  match m, hm with
  | 0, _ => rfl
  | 1, _ => rfl
  | 2, _ => rfl
  | 3, _ => rfl
  | 4, _ => rfl
  | 5, _ => rfl
  | 6, _ => rfl
  | 7, _ => rfl
  | m + 8, hm => omega
end Go.Proofs.Ytdpeiggppemmcaa
