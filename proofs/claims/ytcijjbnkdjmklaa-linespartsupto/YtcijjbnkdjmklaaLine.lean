/- lineOf, and the document's own line: how many blanks a piece begins with, and what stands behind them, in memory of its own. -/
import Derived.Test.YtcijjbnkdjmklaaFind
import Derived.Deep.AppendSrc
import Derived.Deep.Heap
set_option linter.unusedVariables false
set_option linter.unusedSimpArgs false
namespace Go.Proofs.Ytcijjbnkdjmklaa
open Go.RowKit

theorem add_plain (b o m : Nat) : (⟨b, o, none⟩ : Addr).add m = ⟨b, o + m, none⟩ := by unfold Addr.add; split <;> simp_all

theorem Try.info3 : (Try.prog.info? 3).map (fun i => (i.zero, i.size, i.bytes)) = some (some (.int .i64 0), 1, 8) := by kernel_rfl

theorem slice_from (p : Option Addr) (len cap m : Nat) (hm : m ≤ len) (hl : len ≤ cap) (w2 : World) :
    (Instr.slice 22 (.slice p len cap) (some (.int .i64 m)) none none).run Try.prog w2 = .ok (.slice (if cap = m then p else p.map (·.add m)) (len - m) (cap - m)) w2 := by
  have h0 : (m : Int) ≤ len := by omega
  have h1 : (len : Int) ≤ cap := by omega
  have u := Try.underlying22
  have z := Try.sizeOf3
  simp [go_sem, h0, h1]

theorem Is.from {w : World} {p : Option Addr} {l : List Int} (h : Is w p l) (cap m : Nat) (hl : l.length ≤ cap) : Is w (if cap = m then p else p.map (·.add m)) (l.drop m) := by
  split
  · exact .inl (List.drop_eq_nil_of_le (by omega))
  · rcases h with rfl | ⟨b, o, rfl, hc⟩
    · exact .inl (by simp)
    · rw [Option.map_some, add_plain]
      exact Is.drop (.inr ⟨b, o, rfl, hc⟩) m

/-- append([]int(nil), l...) -/
theorem append_copy (w : World) (q : Option Addr) (l : List Int) (c : Nat) (h : Is w q l) (hl : l.length ≤ 17592186044416) :
    ∃ v w', (Builtin.append_ #[22, 22] 22 #[.slice none 0 0, .slice q l.length c]).run Try.prog w = .ok v w' ∧ w'.ownsRow w.heap.size 3 1 v l.length (l.map (.int .i64)) ∧ Below w.heap.size w w' := by
  obtain ⟨i0, hi, hz0, hz1, hz2⟩ := info_parts Try.info3
  cases q with
  | none =>
    have e : l = [] := by
      rcases h with e | ⟨b, o, e, -⟩
      · exact e
      · cases e
    subst e
    refine ⟨.slice none 0 0, w, ?_, World.ownsRow_nil w _ 3 1, Below.refl _ _⟩
    simp [Builtin.append_, run_underlying Try.underlying22, sizeOf, typeInfo, hi, Builtin.lenOf, Builtin.firstCells, loadCells, loadCellsFrom]
  | some a =>
    have hnews : ∀ j u, (l.map (Value.int .i64))[j]? = some u → w.cell? (a.add j) = some u := by
      intro j u hu
      rw [List.getElem?_map] at hu
      cases hj : l[j]? with
      | none => rw [hj] at hu; cases hu
      | some z =>
        rw [hj] at hu
        have hjl : j < l.length := (List.getElem?_eq_some_iff.1 hj).1
        obtain ⟨b, o, e, hc⟩ := h.at (by omega)
        cases e
        rw [add_plain, hc j hjl]
        simp [iAt, hj] at hu ⊢
        exact hu
    obtain ⟨v, w', hr, ho, hg, -⟩ := run_append_own (P := Try.prog) w w.heap.size 22 22 3 i0 (.int .i64 0) 1 8 Try.underlying22 hi hz0 hz1 hz2 rfl (by decide) (.slice none 0 0) 0 [] (World.ownsRow_nil w _ 3 1)
      a l.length c (l.map (.int .i64)) (by simp) hnews (by simp [Value.oneCell']) (by unfold maxLen; omega) (by omega) (Nat.le_refl _)
    refine ⟨v, w', hr, by simpa using ho, ?_⟩
    exact (Below.refl _ w).grown hg (Nat.le_refl _) (fun j e => by cases e)

/-- An append whose run is known. -/
theorem wpList_append_run {P : Program} {w w' : World} {ops : Array Oper} {rest : List Oper} {o : Oper} {a : Act} {Q : Exit → Act → World → Prop} (hgd : o.guard = none) (s x : Operand) (t : TypeId)
    (ho : o.op = .call { callee := .builtin .append, args := #[s, x], argTypes := #[t, t] }) {u y v : Value} (hs : a.eval s = u) (hx : a.eval x = y)
    (hrun : (Builtin.append_ #[t, t] o.type #[u, y]).run P w = .ok v w') (h : wpList P ops Q rest (a.put o.dst v) w') : wpList P ops Q (o :: rest) a w :=
  wpList_plain hgd fun K hK => by
    unfold Oper.wp execOp
    simp [ho, resolve, invoke, builtin, hs, hx, hrun, Result.andThen]
    exact hK _ _ h

theorem ownsRow_form {w : World} {base : Nat} {e : TypeId} {size : Nat} {v : Value} {n : Nat} {xs : List Value} (h : w.ownsRow base e size v n xs) : ∃ a k c, v = .slice a k c := by
  obtain ⟨-, ⟨rfl, -⟩ | ⟨g, cap, cur, rfl, -⟩⟩ := h
  · exact ⟨_, _, _, rfl⟩
  · exact ⟨_, _, _, rfl⟩

/-- A slice of the call's own that holds these ints; what lay there before is as it was. -/
def Copied (w : World) (l : List Int) (w' : World) (v : Value) : Prop := w'.ownsRow w.heap.size 3 1 v l.length (l.map (.int .i64)) ∧ Below w.heap.size w w'

theorem ownsRow_mono {w : World} {base base' : Nat} {e : TypeId} {size : Nat} {v : Value} {n : Nat} {xs : List Value} (h : w.ownsRow base e size v n xs) (hb : base' ≤ base) : w.ownsRow base' e size v n xs := by
  obtain ⟨h1, h2 | ⟨g, cap, cur, hv, hg, rest⟩⟩ := h
  · exact ⟨h1, .inl h2⟩
  · exact ⟨h1, .inr ⟨g, cap, cur, hv, Nat.le_trans hb hg, rest⟩⟩

theorem copied_box {w w1 : World} {o : Obj} {l : List Int} {v v0 v1 : Value} (h : w1.ownsRow (w.heap.size + 1) 3 1 v l.length (l.map (.int .i64))) (hB : Below (w.heap.size + 1) (w.alloc o) w1) :
    Copied w l ((w1.setCell ⟨w.heap.size, 0, none⟩ v0).setCell ⟨w.heap.size, 1, none⟩ v1) v := by
  have hk : ∀ k, k ≠ w.heap.size → ((w1.setCell ⟨w.heap.size, 0, none⟩ v0).setCell ⟨w.heap.size, 1, none⟩ v1).heap[k]? = w1.heap[k]? := by
    intro k hk
    rw [Deep.blk_setCell_other _ _ _ _ hk, Deep.blk_setCell_other _ _ _ _ hk]
  have hB' : Below w.heap.size w w1 := ((Below.refl _ w).alloc (Nat.le_refl _) o).trans (hB.mono (by omega))
  refine ⟨ownsRow_mono (base := w.heap.size + 1) ?_ (by omega), (hB'.setCell (p := ⟨w.heap.size, 0, none⟩) (Nat.le_refl _) _).setCell (p := ⟨w.heap.size, 1, none⟩) (Nat.le_refl _) _⟩
  obtain ⟨h1, h2 | ⟨g, cap, cur, hv, hg, hc, rest⟩⟩ := h
  · exact ⟨h1, .inl h2⟩
  · exact ⟨h1, .inr ⟨g, cap, cur, hv, hg, (hk g (by omega)).trans hc, rest⟩⟩

def is32 (c : Int) : Bool := decide (c = 32)
def inP (l : List Int) : Nat := run is32 l
theorem run_stop (p : Int → Bool) (l : List Int) (h : run p l < l.length) : p (iAt l (run p l)) = false := by
  induction l with
  | nil => simp at h
  | cons x t ih =>
    cases hx : p x
    · rw [show run p (x :: t) = 0 from by simp [run, hx]]
      simpa [iAt] using hx
    · rw [show run p (x :: t) = run p t + 1 from by simp [run, hx]] at h ⊢
      rw [iAt_cons_succ]
      exact ih (by simp at h; omega)

set_option maxRecDepth 100000 in
set_option maxHeartbeats 1000000 in
theorem lineOf_any (p : Option Addr) (l : List Int) (cap : Nat) (w : World) (hl : l.length ≤ cap) (hm : l.length ≤ 17592186044416) (h : Is w p l) :
    Calls Try.prog 21 #[.slice p l.length cap] w fun e w' => ∃ v, e = .returned (.agg #[.int .i64 (inP l), v]) ∧ Copied w (l.drop (inP l)) w' v := by
  obtain ⟨r, hR⟩ : ∃ r, inP l = r := ⟨_, rfl⟩
  have hrl : r ≤ l.length := by rw [← hR]; exact run_le _ _
  rw [hR]
  have HR : Hid (inP l = r) := hR
  clear hR
  have h1 := h.alloc (.cells #[.int .i64 0, .slice none 0 0] 34)
  have S := slice_from p l.length cap r hrl hl
  obtain ⟨v, w1, hrun, HO, HB⟩ : ∃ v w1, (Builtin.append_ #[22, 22] 22 #[.slice none 0 0, .slice (if cap = r then p else p.map (·.add r)) (l.length - r) (cap - r)]).run Try.prog (w.alloc (.cells #[.int .i64 0, .slice none 0 0] 34)) = .ok v w1 ∧ Hid (w1.ownsRow (w.heap.size + 1) 3 1 v (l.drop r).length ((l.drop r).map (.int .i64))) ∧ Hid (Below (w.heap.size + 1) (w.alloc (.cells #[.int .i64 0, .slice none 0 0] 34)) w1) := by
    have := append_copy (w.alloc (.cells #[.int .i64 0, .slice none 0 0] 34)) (if cap = r then p else p.map (·.add r)) (l.drop r) (cap - r) (h1.from cap r hl) (by simp; omega)
    rw [List.length_drop, World.size_alloc] at this
    obtain ⟨v, w', a1, a2, a3⟩ := this
    exact ⟨v, w', a1, by rw [List.length_drop]; exact a2, a3⟩
  have hbk : w1.heap[w.heap.size]? = some (.cells #[.int .i64 0, .slice none 0 0] 34) := (HB.out.block w.heap.size (by omega)).trans (heap_alloc_new w _)
  have cb0 : w1.cell? ⟨w.heap.size, 0, none⟩ = some (.int .i64 0) := by simp [World.cell?, hbk]
  have cb1 : w1.cell? ⟨w.heap.size, 1, none⟩ = some (.slice none 0 0) := by simp [World.cell?, hbk]
  have fb0 : w1.frozen? ⟨w.heap.size, 0, none⟩ = false := by simp [World.frozen?, hbk]
  have fb1 : w1.frozen? ⟨w.heap.size, 1, none⟩ = false := by simp [World.frozen?, hbk]
  clear h hbk
  obtain ⟨va, vk, vc, rfl⟩ := ownsRow_form HO.out
  generalize (if cap = r then p else p.map (·.add r)) = q at S hrun
  generalize l.drop r = d at HO ⊢
  go_enter Try.func21, Try.ntmps21
  go_wp2
  go_loop [3] (fun i => ∃ (k : Nat), k ≤ r ∧ i = .int .i64 k ∧ Hid (∀ j, j < k → is32 (iAt l j) = true)) (fun i => l.length - (intOf i).toNat)
  case atStart => exact ⟨0, Nat.zero_le _, rfl, fun j hj => by omega⟩
  case round =>
    obtain ⟨k, hk, rfl, HE⟩ := hrel
    by_cases hlt : k < l.length
    · obtain ⟨b, o, rfl, hb⟩ := h1.at (by omega)
      have c0 := hb k hlt
      clear hb h1
      by_cases hx : iAt l k = 32
      · have HE' : Hid (∀ j, j < k + 1 → is32 (iAt l j) = true) := by
          intro j hj
          by_cases e : j = k
          · rw [e, hx]; rfl
          · exact HE.out j (by omega)
        have hkr : k < r := by
          by_cases e : k = r
          · exfalso
            have hne := run_stop is32 l (by rw [show run is32 l = r from HR.out]; omega)
            rw [show run is32 l = r from HR.out, ← e, hx] at hne
            exact absurd hne (by decide)
          · omega
        rw [hx] at c0
        clear S hrun
        go_wp2
        go_round
        case rel => exact ⟨k + 1, by omega, by go_num, HE'⟩
        case measure => simp [intOf]; omega
      · have hr : r = k := by
          have : run is32 l = k := run_eq _ l k (by omega) HE.out (fun _ => by unfold is32; simp [hx])
          exact HR.out.symm.trans this
        generalize iAt l k = x at c0 hx
        have t : (x == 32) = false := by simpa using hx
        subst hr
        go_wp2_with (at_builtin; refine wpList_append_run rfl _ _ 22 rfl rfl rfl hrun ?_)
        exact bodyPost_ret (v := .agg #[.int .i64 r, .slice va vk vc]) (by simp [results, Try.results21, go_sem, cb0, cb1]) rfl ⟨_, rfl, copied_box HO.out HB.out⟩
    · obtain rfl : k = l.length := by omega
      have hr : r = l.length := by omega
      subst hr
      simp only [Nat.sub_self] at S hrun
      go_wp2_with (at_builtin; refine wpList_append_run rfl _ _ 22 rfl rfl rfl hrun ?_)
      exact bodyPost_ret (v := .agg #[.int .i64 l.length, .slice va vk vc]) (by simp [results, Try.results21, go_sem, cb0, cb1]) rfl ⟨_, rfl, copied_box HO.out HB.out⟩

set_option maxRecDepth 100000 in
set_option maxHeartbeats 1000000 in
theorem line_any (p : Option Addr) (l : List Int) (cap : Nat) (w : World) (hl : l.length ≤ cap) (hm : l.length ≤ 17592186044416) (h : Is w p l) :
    Calls Try.prog 23 #[.slice p l.length cap] w fun e w' => ∃ v, e = .returned (.agg #[.int .i64 (inP l), v]) ∧ Copied w (l.drop (inP l)) w' v := by
  obtain ⟨r, hR⟩ : ∃ r, inP l = r := ⟨_, rfl⟩
  have hrl : r ≤ l.length := by rw [← hR]; exact run_le _ _
  rw [hR]
  have HR : Hid (inP l = r) := hR
  clear hR
  have h1 := h.alloc (.cells #[.int .i64 0, .slice none 0 0] 34)
  have S := slice_from p l.length cap r hrl hl
  obtain ⟨v, w1, hrun, HO, HB⟩ : ∃ v w1, (Builtin.append_ #[22, 22] 22 #[.slice none 0 0, .slice (if cap = r then p else p.map (·.add r)) (l.length - r) (cap - r)]).run Try.prog (w.alloc (.cells #[.int .i64 0, .slice none 0 0] 34)) = .ok v w1 ∧ Hid (w1.ownsRow (w.heap.size + 1) 3 1 v (l.drop r).length ((l.drop r).map (.int .i64))) ∧ Hid (Below (w.heap.size + 1) (w.alloc (.cells #[.int .i64 0, .slice none 0 0] 34)) w1) := by
    have := append_copy (w.alloc (.cells #[.int .i64 0, .slice none 0 0] 34)) (if cap = r then p else p.map (·.add r)) (l.drop r) (cap - r) (h1.from cap r hl) (by simp; omega)
    rw [List.length_drop, World.size_alloc] at this
    obtain ⟨v, w', a1, a2, a3⟩ := this
    exact ⟨v, w', a1, by rw [List.length_drop]; exact a2, a3⟩
  have hbk : w1.heap[w.heap.size]? = some (.cells #[.int .i64 0, .slice none 0 0] 34) := (HB.out.block w.heap.size (by omega)).trans (heap_alloc_new w _)
  have cb0 : w1.cell? ⟨w.heap.size, 0, none⟩ = some (.int .i64 0) := by simp [World.cell?, hbk]
  have cb1 : w1.cell? ⟨w.heap.size, 1, none⟩ = some (.slice none 0 0) := by simp [World.cell?, hbk]
  have fb0 : w1.frozen? ⟨w.heap.size, 0, none⟩ = false := by simp [World.frozen?, hbk]
  have fb1 : w1.frozen? ⟨w.heap.size, 1, none⟩ = false := by simp [World.frozen?, hbk]
  clear h hbk
  obtain ⟨va, vk, vc, rfl⟩ := ownsRow_form HO.out
  generalize (if cap = r then p else p.map (·.add r)) = q at S hrun
  generalize l.drop r = d at HO ⊢
  go_enter Try.func23, Try.ntmps23
  go_wp2
  go_loop [3] (fun i => ∃ (k : Nat), k ≤ r ∧ i = .int .i64 k ∧ Hid (∀ j, j < k → is32 (iAt l j) = true)) (fun i => l.length - (intOf i).toNat)
  case atStart => exact ⟨0, Nat.zero_le _, rfl, fun j hj => by omega⟩
  case round =>
    obtain ⟨k, hk, rfl, HE⟩ := hrel
    by_cases hlt : k < l.length
    · obtain ⟨b, o, rfl, hb⟩ := h1.at (by omega)
      have c0 := hb k hlt
      clear hb h1
      by_cases hx : iAt l k = 32
      · have HE' : Hid (∀ j, j < k + 1 → is32 (iAt l j) = true) := by
          intro j hj
          by_cases e : j = k
          · rw [e, hx]; rfl
          · exact HE.out j (by omega)
        have hkr : k < r := by
          by_cases e : k = r
          · exfalso
            have hne := run_stop is32 l (by rw [show run is32 l = r from HR.out]; omega)
            rw [show run is32 l = r from HR.out, ← e, hx] at hne
            exact absurd hne (by decide)
          · omega
        rw [hx] at c0
        clear S hrun
        go_wp2
        go_round
        case rel => exact ⟨k + 1, by omega, by go_num, HE'⟩
        case measure => simp [intOf]; omega
      · have hr : r = k := by
          have : run is32 l = k := run_eq _ l k (by omega) HE.out (fun _ => by unfold is32; simp [hx])
          exact HR.out.symm.trans this
        generalize iAt l k = x at c0 hx
        have t : (x == 32) = false := by simpa using hx
        subst hr
        go_wp2_with (at_builtin; refine wpList_append_run rfl _ _ 22 rfl rfl rfl hrun ?_)
        exact bodyPost_ret (v := .agg #[.int .i64 r, .slice va vk vc]) (by simp [results, Try.results23, go_sem, cb0, cb1]) rfl ⟨_, rfl, copied_box HO.out HB.out⟩
    · obtain rfl : k = l.length := by omega
      have hr : r = l.length := by omega
      subst hr
      simp only [Nat.sub_self] at S hrun
      go_wp2_with (at_builtin; refine wpList_append_run rfl _ _ 22 rfl rfl rfl hrun ?_)
      exact bodyPost_ret (v := .agg #[.int .i64 l.length, .slice va vk vc]) (by simp [results, Try.results23, go_sem, cb0, cb1]) rfl ⟨_, rfl, copied_box HO.out HB.out⟩

end Go.Proofs.Ytcijjbnkdjmklaa
