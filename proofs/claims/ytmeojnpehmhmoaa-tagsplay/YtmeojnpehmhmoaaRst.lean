/- The document's Scope: Set and find. -/
import Derived.Test.YtmeojnpehmhmoaaSct
set_option linter.all false
set_option maxRecDepth 100000
namespace Go.Proofs.Ytmeojnpehmhmoaa
open Go.RowKit

/-- The document's row of handles. -/
abbrev OwnH (w : World) (base : Nat) (v : Value) (D : List Mn) : Prop := w.ownsRow base 54 2 v D.length (D.flatMap encM)
theorem Try.info54 : (Try.prog.info? 54).map (fun i => (i.zero, i.size, i.bytes)) = some (some (.agg #[.string ⟨#[]⟩, .string ⟨#[]⟩]), 2, 32) := by kernel_rfl
theorem ownH_form {w : World} {base : Nat} {v : Value} {D : List Mn} (h : OwnH w base v D) : ∃ a c, v = .slice a D.length c ∧ (0 < D.length → ∃ g, a = some ⟨g, 0, none⟩ ∧ Mr w g D) := by
  obtain ⟨h1, ⟨rfl, hn⟩ | ⟨g, cap, cur, rfl, hb, hg, h2, h3, h4, h5⟩⟩ := h
  · exact ⟨none, 0, by rw [hn], fun h => by omega⟩
  · refine ⟨_, cap, rfl, fun _ => ⟨g, rfl, fun j hj => ?_⟩⟩
    obtain ⟨f1, f2⟩ := flat_get D j hj
    rw [← h5] at f1 f2
    rw [List.getElem?_take_of_lt (by omega), Array.getElem?_toList] at f1 f2
    exact ⟨by simp [World.cell?, hg, f1], by simp [World.cell?, hg, f2]⟩
theorem look_none {D : List Mn} {h : ByteArray} : look D h = none ↔ ∀ j, j < D.length → hB (mAt D j) ≠ h.data.toList := by
  unfold look
  rw [Option.map_eq_none_iff, List.find?_eq_none]
  constructor
  · intro h1 j hj e
    have := h1 (mAt D j) (by rw [mAt_get hj]; exact List.getElem_mem hj)
    exact this (decide_eq_true e)
  · intro h1 x hx
    obtain ⟨j, hj, rfl⟩ := List.mem_iff_getElem.1 hx
    have := h1 j hj
    rw [mAt_get hj] at this
    simpa using this
theorem look_first {D : List Mn} {h : ByteArray} {i : Nat} (hi : i < D.length) (h1 : ∀ j, j < i → hB (mAt D j) ≠ h.data.toList) (h2 : hB (mAt D i) = h.data.toList) : look D h = some (mAt D i).2 := by
  unfold look
  have e : D.find? (fun x => decide (hB x = h.data.toList)) = some (mAt D i) := by
    rw [List.find?_eq_some_iff_getElem]
    refine ⟨decide_eq_true h2, i, hi, (mAt_get hi).symm, fun j hj => ?_⟩
    have := h1 j hj
    rw [mAt_get (by omega)] at this
    simpa using this
  rw [e]
  rfl
theorem str_eq {x h : ByteArray} : (x.toList == h.toList) = true ↔ x.data.toList = h.data.toList := by rw [beq_iff_eq, tlD, tlD]
theorem str_ne {x h : ByteArray} (hn : x.data.toList ≠ h.data.toList) : (x.toList == h.toList) = false := by
  rw [← Bool.not_eq_true, str_eq]
  exact hn

set_option maxHeartbeats 800000 in
theorem rSet_no (b base : Nat) (v : Value) (D : List Mn) (h q x : ByteArray) (w : World) (hb : Boxed w b 31 v) (hO : OwnH w base v D) (hD : D.length ≤ 50) (ho : look D h = some x) :
    Calls Try.prog 7 #[.pointer (some ⟨b, 0, none⟩), .string h, .string q] w fun e w' => e = .returned (.bool false) ∧ w' = w := by
  obtain ⟨a, c, rfl, hf⟩ := ownH_form hO
  have hc := hb.cell
  go_enter Try.func7, Try.ntmps7
  go_wp2
  go_loop [7] (fun ri => ∃ i : Nat, i ≤ D.length ∧ ri = .int .i64 i ∧ Hid (∀ j, j < i → hB (mAt D j) ≠ h.data.toList)) (fun ri => D.length - (RowKit.intOf ri).toNat)
  case atStart => exact ⟨0, Nat.zero_le _, rfl, fun j hj => by omega⟩
  case round =>
    obtain ⟨i, hi, rfl, h1⟩ := hrel
    by_cases hlt : i < D.length
    · obtain ⟨g, rfl, hM⟩ := hf (by omega)
      obtain ⟨c1, c2⟩ := hM i hlt
      have hlt' : (i : Int) < D.length := by omega
      by_cases he : hB (mAt D i) = h.data.toList
      · have he' := str_eq (x := (mAt D i).1) (h := h) |>.2 he
        clear hf hM h1
        go_wp2
        go_ret
        exact ⟨rfl, rfl⟩
      · have he' := str_ne (x := (mAt D i).1) (h := h) he
        have HN : Hid (∀ j, j < i + 1 → hB (mAt D j) ≠ h.data.toList) := fun j hj => by
          by_cases e : j = i
          · subst e; exact he
          · exact h1.out j (by omega)
        clear hf hM h1 he
        go_wp2
        go_round
        case rel => exact ⟨i + 1, by omega, by go_num, HN.out⟩
        case measure => simp [RowKit.intOf]; omega
    · obtain rfl : i = D.length := by omega
      rw [look_none.2 h1.out] at ho
      cases ho
theorem pushH {w : World} {base : Nat} {v : Value} {D : List Mn} (hO : OwnH w base v D) (hb : base ≤ w.heap.size) (h q : ByteArray) (hD : D.length ≤ 1000) :
    ∃ g cap w1, (Builtin.append_ #[29, 29] 29 #[v, .slice (some ⟨w.heap.size, 0, none⟩) 1 1]).run Try.prog (w.alloc (.cells #[.string h, .string q] 54)) = .ok (.slice (some ⟨g, 0, none⟩) (D.length + 1) cap) w1 ∧
      OwnH w1 base (.slice (some ⟨g, 0, none⟩) (D.length + 1) cap) (D ++ [(h, q)]) ∧ (w.alloc (.cells #[.string h, .string q] 54)).grownBy w1 v.ownBlock ∧ (v.ownBlock = some g ∨ g = w.heap.size + 1) := by
  obtain ⟨i0, hi, hz0, hz1, hz2⟩ := info_parts Try.info54
  obtain ⟨g, cap, w1, h1, h2, h3, h4, -⟩ := run_append_lies (P := Try.prog) (w.alloc (.cells #[.string h, .string q] 54)) 29 29 base 54 i0 (.agg #[.string ⟨#[]⟩, .string ⟨#[]⟩]) 2 32 Try.underlying29 hi hz0 hz1 hz2 rfl (by decide)
    v D.length (D.flatMap encM) (hO.alloc _) ⟨w.heap.size, 0, none⟩ 1 1 [.string h, .string q] rfl (fun j u hu => by
      rw [add_plain, Nat.zero_add]
      unfold World.cell?
      rw [World.alloc_heap_new]
      match j, hu with
      | 0, hu => simp at hu; subst hu; rfl
      | 1, hu => simp at hu; subst hu; rfl
      | j + 2, hu => simp at hu) (by simp [Value.oneCell']) (by decide) (by unfold maxLen; omega) (by omega) (by simp; omega) (w.heap.size + 1) (by simp)
  refine ⟨g, cap, w1, h1, ?_, h3, h4⟩
  unfold OwnH
  rw [List.length_append, List.flatMap_append]
  exact h2
/-- What the document's Set leaves behind. -/
def RsP (N b : Nat) (v : Value) (D : List Mn) (h q : ByteArray) (w w' : World) : Prop :=
  ∃ v' W, Boxed w' b 31 v' ∧ OwnH w' N v' (D ++ [(h, q)]) ∧ w.grownBy W v.ownBlock ∧ W.grownBy w' (some b) ∧ (∀ k, v'.ownBlock = some k → v.ownBlock = some k ∨ w.heap.size ≤ k) ∧ (∀ k, v'.ownBlock = some k → k < w'.heap.size)
set_option maxHeartbeats 1600000 in
theorem rSet_yes (N b : Nat) (v : Value) (D : List Mn) (h q : ByteArray) (w : World) (hbN : b < N) (hNw : N ≤ w.heap.size) (hb : Boxed w b 31 v) (hO : OwnH w N v D) (hD : D.length ≤ 50) (ho : look D h = none) :
    Calls Try.prog 7 #[.pointer (some ⟨b, 0, none⟩), .string h, .string q] w fun e w' => e = .returned (.bool true) ∧ RsP N b v D h q w w' := by
  have hnone := look_none.1 ho
  obtain ⟨g1, cap1, w1, hrun, hO1, hgr1, hg1⟩ := pushH hO hNw h q (by omega)
  have hgr : w.grownBy w1 v.ownBlock := (World.grownBy_alloc w (.cells #[.string h, .string q] 54) v.ownBlock).trans hgr1
  have hvb : ∀ k, v.ownBlock = some k → N ≤ k := by
    intro k hk
    rcases hO.2 with ⟨rfl, -⟩ | ⟨g, cap, cur, rfl, hb', -⟩
    · cases hk
    · cases hk; exact hb'
  have hb1 : Boxed w1 b 31 v := hb.kept hgr (fun e => by have := hvb b e.symm; omega)
  have hOb : OwnH (w1.setCell ⟨b, 0, none⟩ (.slice (some ⟨g1, 0, none⟩) (D.length + 1) cap1)) N (.slice (some ⟨g1, 0, none⟩) (D.length + 1) cap1) (D ++ [(h, q)]) := by
    obtain ⟨a1, ⟨e, -⟩ | ⟨g, cap, cur, e, b1, b2, b3⟩⟩ := hO1
    · cases e
    · simp only [Value.slice.injEq, Option.some.injEq, Addr.mk.injEq] at e
      obtain ⟨⟨rfl, -, -⟩, hlen, rfl⟩ := e
      refine ⟨a1, .inr ⟨g1, cap1, cur, by rw [hlen], b1, ?_, b3⟩⟩
      rw [Deep.blk_setCell_other _ _ _ _ (by dsimp only; omega)]
      exact b2
  have hgs : g1 < w1.heap.size := by
    obtain ⟨a1, ⟨e, -⟩ | ⟨g, cap, cur, e, b1, b2, b3⟩⟩ := hO1
    · cases e
    · simp only [Value.slice.injEq, Option.some.injEq, Addr.mk.injEq] at e
      obtain ⟨⟨rfl, -, -⟩, hlen, rfl⟩ := e
      exact (Array.getElem?_eq_some_iff.1 b2).1
  have FIN : RsP N b v D h q w (w1.setCell ⟨b, 0, none⟩ (.slice (some ⟨g1, 0, none⟩) (D.length + 1) cap1)) := by
    refine ⟨_, w1, hb1.set _, hOb, hgr, ⟨rfl, rfl, rfl, by simp [World.setCell], fun k hk hne => Deep.blk_setCell_other _ _ _ _ (fun e => hne (by rw [show k = b from e]))⟩, fun k hk => ?_, fun k hk => ?_⟩
    · cases hk
      rcases hg1 with h5 | h5
      · exact .inl h5
      · exact .inr (by show w.heap.size ≤ g1; omega)
    · cases hk
      simp [World.setCell]
      exact hgs
  obtain ⟨a, c, rfl, hf⟩ := ownH_form hO
  have hc := hb.cell
  have hc1 := hb1.cell
  have hf1 := hb1.frozen
  clear hOb hO1 hgr1 hgr hg1 hb1 hvb
  go_enter Try.func7, Try.ntmps7
  go_wp2
  go_loop [7] (fun ri => ∃ i : Nat, i ≤ D.length ∧ ri = .int .i64 i) (fun ri => D.length - (RowKit.intOf ri).toNat)
  case atStart => exact ⟨0, Nat.zero_le _, rfl⟩
  case round =>
    obtain ⟨i, hi, rfl⟩ := hrel
    by_cases hlt : i < D.length
    · obtain ⟨g, rfl, hM⟩ := hf (by omega)
      obtain ⟨c1, c2⟩ := hM i hlt
      have hlt' : (i : Int) < D.length := by omega
      have he' := str_ne (x := (mAt D i).1) (h := h) (hnone i hlt)
      clear hf hM FIN hrun hnone
      go_wp2
      go_round
      case rel => exact ⟨i + 1, by omega, by go_num⟩
      case measure => simp [RowKit.intOf]; omega
    · obtain rfl : i = D.length := by omega
      clear hf hnone
      go_wp2_with (first | (at_builtin; refine wpList_append_run rfl _ _ 29 rfl rfl rfl hrun ?_))
      go_ret
      exact ⟨rfl, FIN⟩
set_option maxHeartbeats 1600000 in
theorem find_any (b base : Nat) (v : Value) (D : List Mn) (h : ByteArray) (w : World) (hb : Boxed w b 31 v) (hO : OwnH w base v D) (hD : D.length ≤ 50) :
    Calls Try.prog 24 #[.pointer (some ⟨b, 0, none⟩), .string h] w fun e w' => e = .returned (optV (preP h (look D h))) ∧ w' = w := by
  obtain ⟨a, c, rfl, hf⟩ := ownH_form hO
  have hc := hb.cell
  obtain ⟨A, hA⟩ : ∃ A, optV (preP h (look D h)) = A := ⟨_, rfl⟩
  rw [hA]
  have HA : Hid (optV (preP h (look D h)) = A) := hA
  clear hA
  go_enter Try.func24, Try.ntmps24
  go_wp2
  go_loop [6] (fun ri => ∃ i : Nat, i ≤ D.length ∧ ri = .int .i64 i ∧ Hid (∀ j, j < i → hB (mAt D j) ≠ h.data.toList)) (fun ri => D.length - (RowKit.intOf ri).toNat)
  case atStart => exact ⟨0, Nat.zero_le _, rfl, fun j hj => by omega⟩
  case round =>
    obtain ⟨i, hi, rfl, h1⟩ := hrel
    by_cases hlt : i < D.length
    · obtain ⟨g, rfl, hM⟩ := hf (by omega)
      obtain ⟨c1, c2⟩ := hM i hlt
      have hlt' : (i : Int) < D.length := by omega
      by_cases he : hB (mAt D i) = h.data.toList
      · have he' := str_eq (x := (mAt D i).1) (h := h) |>.2 he
        have HR : Hid (A = .tuple #[.string (mAt D i).2, .bool true]) := by
          show _ = _
          rw [← HA.out, look_first hlt h1.out he]
          rfl
        clear hf hM h1 HA
        go_wp2
        go_ret2
        exact ⟨by rw [HR.out]; rfl, rfl⟩
      · have he' := str_ne (x := (mAt D i).1) (h := h) he
        have HN : Hid (∀ j, j < i + 1 → hB (mAt D j) ≠ h.data.toList) := fun j hj => by
          by_cases e : j = i
          · subst e; exact he
          · exact h1.out j (by omega)
        clear hf hM h1 he HA
        go_wp2
        go_round
        case rel => exact ⟨i + 1, by omega, by go_num, HN.out⟩
        case measure => simp [RowKit.intOf]; omega
    · obtain rfl : i = D.length := by omega
      have HR : Hid (A = .tuple #[.string ((if h.toList = [33] then some ⟨#[33]⟩ else if h.toList = [33, 33] then some yamlS else none : Option ByteArray).getD ⟨#[]⟩), .bool ((if h.toList = [33] then some ⟨#[33]⟩ else if h.toList = [33, 33] then some yamlS else none : Option ByteArray).isSome)]) := by
        show _ = _
        rw [← HA.out, look_none.2 h1.out]
        rfl
      clear hf h1 HA
      go_wp2
      all_goals go_ret2
      all_goals (refine ⟨?_, rfl⟩; rw [HR.out]; simp_all [yamlS])
end Go.Proofs.Ytmeojnpehmhmoaa
