/- Scope.Set, as it runs. -/
import Derived.Test.YtmeojnpehmhmoaaSte
set_option linter.all false
set_option maxRecDepth 100000
namespace Go.Proofs.Ytmeojnpehmhmoaa
open Go.RowKit

set_option maxHeartbeats 800000 in
theorem Set_no (N b : Nat) (X : Nat → Prop) (D : List Mn) (h q x : ByteArray) (w : World) (hS : Sc N X w b D) (ho : look D h = some x) :
    Calls Try.prog 6 #[.pointer (some ⟨b, 0, none⟩), .string h, .string q] w fun e w' => e = .returned (.bool false) ∧ Below w.heap.size w w' := by
  have TD := hS.told h
  rw [ho] at TD
  simp only [optV, Option.getD, Option.isSome] at TD
  go_enter Try.func6, Try.ntmps6
  go_wp2_with (first | (go_at_call 14; refine TD.mono ?_; rintro e w1 ⟨rfl, hB⟩))
  go_ret
  exact ⟨rfl, hB⟩
theorem slice3 (p : Option Addr) (len cap s : Nat) (hs : s ≤ cap) (w2 : World) :
    (Instr.slice 25 (.slice p len cap) none (some (.int .i64 s)) (some (.int .i64 s))).run Try.prog w2 = .ok (.slice p s s) w2 := by
  have h0 : (s : Int) ≤ cap := by omega
  have u := Try.underlying25
  have z := Try.sizeOf48
  cases p with
  | none => simp [go_sem, h0]
  | some a =>
    obtain ⟨b, o, sp⟩ := a
    by_cases hc : s = 0
    · subst hc
      simp [go_sem]
    · cases sp <;> simp [go_sem, h0, hc, Addr.add]
theorem drop_flat {R : List (List Mn)} {k : Nat} (h : k < R.length) : (R.drop k).flatten = rAt R k ++ (R.drop (k + 1)).flatten := by
  rw [List.drop_eq_getElem_cons h, List.flatten_cons, rAt_get h]
theorem own_one (w : World) (h q : ByteArray) (base : Nat) (hb : base ≤ w.heap.size) : OwnM (w.alloc (.cells #[.string h, .string q] 47)) base (.slice (some ⟨w.heap.size, 0, none⟩) 1 1) [(h, q)] :=
  ⟨rfl, .inr ⟨w.heap.size, 1, _, rfl, hb, World.alloc_heap_new w _, by simp, by unfold maxLen; simp, rfl, rfl⟩⟩
theorem two_cells (W : World) (x y : Value) : (W.alloc (.cells #[x, y] 48)).cell? ⟨W.heap.size, 0, none⟩ = some x ∧ (W.alloc (.cells #[x, y] 48)).cell? ⟨W.heap.size, 1, none⟩ = some y := by
  constructor
  · unfold World.cell?
    rw [World.alloc_heap_new]
    rfl
  · unfold World.cell?
    rw [World.alloc_heap_new]
    rfl
set_option maxHeartbeats 1600000 in
theorem Set_yes (N b : Nat) (X : Nat → Prop) (D : List Mn) (h q : ByteArray) (w : World) (hX : ∀ k, X k → k < w.heap.size) (hS : Sc N X w b D) (hD : D.length ≤ 49) (ho : look D h = none) :
    Calls Try.prog 6 #[.pointer (some ⟨b, 0, none⟩), .string h, .string q] w fun e w' => e = .returned (.bool true) ∧ w.grownBy w' (some b) ∧ Sc N X w' b (D ++ [(h, q)]) := by
  have TD := hS.told h
  rw [ho] at TD
  simp only [optV, Option.getD, Option.isSome] at TD
  obtain ⟨hbN, hNw, R, p, cap, hbox, hcap, hrw, hrd⟩ := hS
  have hRl : R.length ≤ 50 := by have := flat_ge R hrd.ne; have := hrd.flen; omega
  have hc0 := hbox.cell
  have hbl := World.block_lt_of_cell? w _ hc0
  dsimp only at hbl
  go_enter Try.func6, Try.ntmps6
  go_wp2_with (first | (go_at_call 14; refine TD.mono ?_; rintro e w1 ⟨rfl, hB1⟩; have hc1 := (hB1.cell (p := ⟨b, 0, none⟩) hbl).trans hc0; have hc2 := ((hB1.alloc hB1.size (.cells #[.string h, .string q] 47)).cell (p := ⟨b, 0, none⟩) hbl).trans hc0))
  have hO0 := own_one w1 h q w.heap.size hB1.size
  have hB0 := hB1.alloc hB1.size (.cells #[.string h, .string q] 47)
  generalize w1.alloc (.cells #[.string h, .string q] 47) = w2 at hc2 hO0 hB0 ⊢
  have e1 : ([(h, q)] : List Mn).length = 1 := rfl
  go_loopw [9, 10] (fun rv rk wr => ∃ (k g c : Nat) (row : List Mn), k ≤ R.length ∧ rk = .int .i64 k ∧ rv = .slice (some ⟨g, 0, none⟩) row.length c ∧ OwnM wr w.heap.size (.slice (some ⟨g, 0, none⟩) row.length c) row ∧ Hid (row = (R.drop k).flatten ++ [(h, q)]) ∧ Below w.heap.size w wr) (fun _ rk _ => (RowKit.intOf rk).toNat)
  case atStart => exact ⟨R.length, w1.heap.size, 1, [(h, q)], Nat.le_refl _, rfl, rfl, hO0, by show _ = _; rw [List.drop_length]; rfl, hB0⟩
  case round =>
    clear hO0 hB0 hc2 TD hc1 hB1
    obtain ⟨k, g, c, row, hk, rfl, rfl, hO, hrow, hB⟩ := hrel
    have hb := (hB.cell (p := ⟨b, 0, none⟩) hbl).trans hc0
    have hrw2 := hrw.kept (row := none) ⟨hB.os, hB.tape, hB.output, hB.size, fun k hk _ => hB.block k hk⟩ (fun k e => by cases e)
    obtain ⟨-, hgc, hbg, hgs, hMg, hfg⟩ := own_mr hO
    have hrl : row.length ≤ 100 := by
      rw [hrow.out, List.length_append]
      have e2 : R.flatten.length = (R.take k).flatten.length + (R.drop k).flatten.length := by rw [← List.length_append, ← List.flatten_append, List.take_append_drop]
      have e3 : ([(h, q)] : List Mn).length = 1 := rfl
      have := hrd.flen
      omega
    by_cases hk0 : 0 < k
    · obtain ⟨k', rfl⟩ : ∃ k', k = k' + 1 := ⟨k - 1, by omega⟩
      rcases hrw2 with e | ⟨gg, rfl, hgN, hg⟩
      · subst e; simp at hk
      obtain ⟨gi, ci, a1, a2, a3, a4⟩ := hg k' (by omega)
      have hkm : (k' : Int) < R.length := by omega
      have hk1 : (0 : Int) < (k' + 1 : Nat) := by omega
      have hk2 : ((k' + 1 : Nat) : Int) - 1 = k' := by omega
      by_cases hle : (rAt R k').length ≤ row.length
      · have hle' : ((rAt R k').length : Int) ≤ row.length := by omega
        have hrm := rAt_mem (R := R) (i := k') (by omega)
        obtain ⟨a1', a2'⟩ := two_cells wr (.slice (some ⟨gi, 0, none⟩) (rAt R k').length ci) (.slice (some ⟨g, 0, none⟩) row.length c)
        have hBa := (Below.refl wr.heap.size wr).alloc (Nat.le_refl _) (.cells #[.slice (some ⟨gi, 0, none⟩) (rAt R k').length ci, .slice (some ⟨g, 0, none⟩) row.length c] 48)
        have CC := concat_any wr.heap.size gi ci g c (rAt R k') row _ a1' a2' (a4.on hBa) (hMg.on hBa) (hrd.ne _ hrm) (by rw [hrow.out]; simp) (by have := mem_flat_le hrm; have := hrd.flen; omega) (by omega)
        have HR : Hid (rAt R k' ++ row = (R.drop k').flatten ++ [(h, q)]) := by
          show _ = _
          rw [hrow.out, drop_flat (R := R) (k := k') (by omega), List.append_assoc]
        have hszr := hB.size
        clear hg a1' a2' a4 hMg hfg hO hrow
        go_wp2_with (first | (go_at_call 15; refine CC.mono ?_; rintro e w3 ⟨g3, c3, rfl, hO3, hB3⟩))
        go_roundw
        case rel =>
          rw [← List.length_append] at *
          refine ⟨k', g3, c3, rAt R k' ++ row, by omega, rfl, rfl, ownsRow_mono hO3 (by simp; omega), HR.out, ?_⟩
          exact hB.trans ((hBa.trans (hB3.mono (by simp))).mono hB.size)
        case measure => simp [RowKit.intOf]
      · have hle' : ¬ ((rAt R k').length : Int) ≤ row.length := by omega
        have hg2 : Hid (∀ i, i < R.length → True) := fun _ _ => trivial
        clear hg
        have S3 := slice3 (some ⟨gg, 0, none⟩) R.length cap (k' + 1) (by omega)
        have SO := sort_any g c row wr hMg hfg hgs (by omega)
        have HE : Hid (∀ (w4 : World) (l' : List Mn), l'.Perm row → (∀ i j, i < j → j < l'.length → ¬ cfM (mAt l' j) (mAt l' i) < 0) → Mr w4 g l' → wr.grownBy w4 (some g) → _) := fun w4 l' hp hs hM hg4 => And.intro (hg4.block b (Nat.lt_of_lt_of_le hbl hB.size) (fun e => by cases e; omega)) (set_end N b cap (k' + 1) g c X (some ⟨gg, 0, none⟩) R D h q w wr w4 row l' hbN hNw hbox hcap hX hrw hrd hD ho hk hB hO hrow.out hp hs hM hg4)
        have hb2 := hb
        clear hrow hO hMg hfg
        go_wp2_with (first | (go_at_call 16; refine SO.mono ?_; rintro e w4 ⟨rfl, l', hp, hs, hM, hg4⟩; obtain ⟨eb, v5, w5, hrun, hbx5, hgr, hSc, G, C, rfl⟩ := HE.out w4 l' hp hs hM hg4; have c4 := (World.cell?_of_block (a := ⟨b, 0, none⟩) eb).trans hb2; have c5 := hbx5.cell; have f5 := hbx5.frozen) | (at_builtin; refine wpList_append_run rfl _ _ 25 rfl rfl rfl hrun ?_))
        go_ret
        exact ⟨rfl, hgr, hSc⟩
    · obtain rfl : k = 0 := by omega
      have S3 := slice3 p R.length cap 0 (by omega)
      have SO := sort_any g c row wr hMg hfg hgs (by omega)
      have HE : Hid (∀ (w4 : World) (l' : List Mn), l'.Perm row → (∀ i j, i < j → j < l'.length → ¬ cfM (mAt l' j) (mAt l' i) < 0) → Mr w4 g l' → wr.grownBy w4 (some g) → _) := fun w4 l' hp hs hM hg4 => And.intro (hg4.block b (Nat.lt_of_lt_of_le hbl hB.size) (fun e => by cases e; omega)) (set_end N b cap 0 g c X p R D h q w wr w4 row l' hbN hNw hbox hcap hX hrw hrd hD ho hk hB hO hrow.out hp hs hM hg4)
      have hb2 := hb
      clear hrw2 hrow hO hMg hfg
      go_wp2_with (first | (go_at_call 16; refine SO.mono ?_; rintro e w4 ⟨rfl, l', hp, hs, hM, hg4⟩; obtain ⟨eb, v5, w5, hrun, hbx5, hgr, hSc, G, C, rfl⟩ := HE.out w4 l' hp hs hM hg4; have c4 := (World.cell?_of_block (a := ⟨b, 0, none⟩) eb).trans hb2; have c5 := hbx5.cell; have f5 := hbx5.frozen) | (at_builtin; refine wpList_append_run rfl _ _ 25 rfl rfl rfl hrun ?_))
      go_ret
      exact ⟨rfl, hgr, hSc⟩
end Go.Proofs.Ytmeojnpehmhmoaa
