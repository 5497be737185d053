/- decimal.number: a number without the noughts at its end. -/
import Derived.Test.YtpffegkckejpiaaDread
import Derived.Laws.ResultCell
set_option linter.unusedVariables false
set_option linter.unusedSimpArgs false
namespace Go.Proofs.Ytpffegkckejpiaa
open Go.RowKit

/-- A variable of four cells that the call has made lies as it lay. -/
theorem res_cells {w W : World} {c0 c1 c2 c3 : Value} (hB : Below (w.heap.size + 1) (w.alloc (.cells #[c0, c1, c2, c3] 27)) W) :
    W.cell? ⟨w.heap.size, 0, none⟩ = some c0 ∧ W.cell? ⟨w.heap.size, 1, none⟩ = some c1 ∧ W.cell? ⟨w.heap.size, 2, none⟩ = some c2 ∧ W.cell? ⟨w.heap.size, 3, none⟩ = some c3 ∧
    W.frozen? ⟨w.heap.size, 0, none⟩ = false ∧ W.frozen? ⟨w.heap.size, 1, none⟩ = false ∧ W.frozen? ⟨w.heap.size, 2, none⟩ = false ∧ W.frozen? ⟨w.heap.size, 3, none⟩ = false := by
  have hb : ∀ i, (⟨w.heap.size, i, none⟩ : Addr).block < w.heap.size + 1 := fun i => Nat.lt_succ_self _
  refine ⟨?_, ?_, ?_, ?_, ?_, ?_, ?_, ?_⟩
  all_goals first | rw [hB.cell (hb _)] | rw [hB.frozen (hb _)]
  all_goals simp

/-- Four stores into it. -/
def put4 (W : World) (g : Nat) (b0 b1 b2 b3 : Value) : World := (((W.setCell ⟨g, 0, none⟩ b0).setCell ⟨g, 1, none⟩ b1).setCell ⟨g, 2, none⟩ b2).setCell ⟨g, 3, none⟩ b3
theorem put4_below {B g : Nat} {w W : World} (h : Below B w W) (hg : B ≤ g) (b0 b1 b2 b3 : Value) : Below B w (put4 W g b0 b1 b2 b3) :=
  (((h.setCell (p := ⟨g, 0, none⟩) hg b0).setCell (p := ⟨g, 1, none⟩) hg b1).setCell (p := ⟨g, 2, none⟩) hg b2).setCell (p := ⟨g, 3, none⟩) hg b3
theorem put4_load {W : World} {g : Nat} {a0 a1 a2 a3 : Value} (r0 : W.cell? ⟨g, 0, none⟩ = some a0) (r1 : W.cell? ⟨g, 1, none⟩ = some a1) (r2 : W.cell? ⟨g, 2, none⟩ = some a2) (r3 : W.cell? ⟨g, 3, none⟩ = some a3) (b0 b1 b2 b3 : Value) :
    (loadVar 27 ⟨g, 0, none⟩).run Try.prog (put4 W g b0 b1 b2 b3) = .ok (.agg #[b0, b1, b2, b3]) (put4 W g b0 b1 b2 b3) := by
  unfold put4
  simp [go_sem, r0, r1, r2, r3]
theorem put4_results {fn : Func} {p : Tmp} (h : fn.results = #[.cell p 27]) {tmps : Array Value} {W : World} {g : Nat} {a0 a1 a2 a3 : Value} (hp : tmps.getD p undef = .pointer (some ⟨g, 0, none⟩))
    (r0 : W.cell? ⟨g, 0, none⟩ = some a0) (r1 : W.cell? ⟨g, 1, none⟩ = some a1) (r2 : W.cell? ⟨g, 2, none⟩ = some a2) (r3 : W.cell? ⟨g, 3, none⟩ = some a3) (b0 b1 b2 b3 : Value) :
    (results fn tmps).run Try.prog (put4 W g b0 b1 b2 b3) = .ok (.agg #[b0, b1, b2, b3]) (put4 W g b0 b1 b2 b3) := by
  have hp' : tmps[p]?.getD undef = .pointer (some ⟨g, 0, none⟩) := by simpa using hp
  simp [results, h, hp', asAddr, put4_load r0 r1 r2 r3]
theorem put4_results2 {fn : Func} {p u : Tmp} (h : fn.results = #[.cell p 27, .tmp u]) {tmps : Array Value} {W : World} {g : Nat} {a0 a1 a2 a3 v : Value} (hp : tmps.getD p undef = .pointer (some ⟨g, 0, none⟩)) (hu : tmps.getD u undef = v)
    (r0 : W.cell? ⟨g, 0, none⟩ = some a0) (r1 : W.cell? ⟨g, 1, none⟩ = some a1) (r2 : W.cell? ⟨g, 2, none⟩ = some a2) (r3 : W.cell? ⟨g, 3, none⟩ = some a3) (b0 b1 b2 b3 : Value) :
    (results fn tmps).run Try.prog (put4 W g b0 b1 b2 b3) = .ok (.tuple #[.agg #[b0, b1, b2, b3], v]) (put4 W g b0 b1 b2 b3) := by
  rw [results_cell_tmp h, hp, hu]
  simp [asAddr, Result.andThen, put4_load r0 r1 r2 r3]

theorem size1 (w : World) (o : Obj) : (w.alloc o).heap.size = w.heap.size + 1 := by simp

set_option maxRecDepth 100000 in
set_option maxHeartbeats 1000000 in
theorem number_zero (b : Bool) (e : Int) (w : World) :
    Calls Try.prog 39 #[.bool b, .string ⟨#[48]⟩, .int .i64 e] w fun r w' => r = .returned (numV b 0 e) ∧ Below w.heap.size w w' := by
  go_enter Try.func39, Try.ntmps39
  go_wp2
  refine bodyPost_ret (v := numV b 0 e) (by simp [results, Try.results39, go_sem, numV]) rfl ⟨rfl, (Below.refl _ w).alloc (Nat.le_refl _) _⟩

set_option maxRecDepth 100000 in
set_option maxHeartbeats 1000000 in
theorem number_pos (b : Bool) (n : Nat) (e : Int) (w : World) (hn : 0 < n) (hs : (decB n).size ≤ 20000) (he0 : -2000000000 ≤ e) (he1 : e ≤ 2000000000) :
    Calls Try.prog 39 #[.bool b, .string (decB n), .int .i64 e] w fun r w' => r = .returned (numV b n e) ∧ Below w.heap.size w w' := by
  have R := dread_yes (decB n) (w.alloc (.cells #[.bool false, .string ⟨#[]⟩, .int .i64 0, .int .i64 0] 27)) (dec_isD n) (by omega)
  have hne : ((decB n).toList == [48]) = false := by
    rw [Lib.toList_data]
    apply beq_false_of_ne
    intro e
    have h := (dec_zero_iff n).1 (by rw [← Lib.mk_data (decB n), e])
    omega
  have hdg : Dg 10 (dl n).reverse := fun d hd => dl_dg n d (List.mem_reverse.1 hd)
  obtain ⟨t1, t2⟩ := trim_car hn
  have hq := quot_pos hn
  have HV : Hid (numV b n e = .agg #[.bool b, .string ⟨((trimL (dl n).reverse).map fun d => UInt8.ofNat (48 + d)).toArray⟩, .int .i64 (e + (dl n).reverse.length - trimLen (dl n).reverse), .int .i64 0]) := by
    show numV b n e = _
    unfold numV
    rw [if_neg (by omega)]
    have e1 : (⟨((trimL (dl n).reverse).map fun d => UInt8.ofNat (48 + d)).toArray⟩ : ByteArray) = decB (n / 10 ^ tz n) := by
      rw [t2, ← Lib.mk_data (decB _), dec_list, dl_pos hq]
    have e2 : e + ((dl n).reverse.length : Int) - (trimLen (dl n).reverse : Int) = e + (tz n : Int) := by rw [List.length_reverse]; omega
    rw [e1, e2]
  rw [dec_msd, size1] at R
  rw [dec_sz, ← List.length_reverse] at hs
  generalize decB n = s at R hne ⊢
  generalize numV b n e = V at HV ⊢
  generalize (dl n).reverse = L at R HV hdg hs
  clear t1 t2 hn hq
  go_enter Try.func39, Try.ntmps39
  obtain ⟨T, hT⟩ : ∃ T, (⟨((trimL L).map fun d => UInt8.ofNat (48 + d)).toArray⟩ : ByteArray) = T := ⟨_, rfl⟩
  rw [hT] at HV
  have HT : Hid _ := hT
  clear hT
  go_wp2_with fail
  refine R.mono ?_
  rintro e' w1 ⟨v1, rfl, hO1, hB1⟩
  obtain ⟨p1, c1, rfl, hc1, hc2, hr1, -⟩ := hO1.form
  have TR := dtrim_any p1 L c1 w1 hc1 (by unfold maxLen at hc2; omega) hr1
  have hl := trimLen_le L
  have TX := dtext_any p1 c1 (trimL L) w1 (hr1.take _) hdg.trim (by rw [trimL_len]; omega)
  rw [trimL_len, HT.out] at TX
  go_wp2_with fail
  refine TR.mono ?_
  rintro e' w1 ⟨rfl, rfl⟩
  go_wp2_with fail
  refine TX.mono ?_
  rintro e' w2 ⟨rfl, hB2⟩
  have hBB : Below (w.heap.size + 1) (w.alloc (.cells #[.bool false, .string ⟨#[]⟩, .int .i64 0, .int .i64 0] 27)) w2 := hB1.trans (hB2.mono (by have := hB1.size; rw [size1] at this; omega))
  obtain ⟨r0, r1, r2, r3, f0, f1, f2, f3⟩ := res_cells hBB
  have hw : Below w.heap.size w w2 := ((Below.refl _ w).alloc (Nat.le_refl _) _).trans (hBB.mono (by omega))
  go_wp2
  rw [HV.out]
  exact bodyPost_ret (v := .agg #[.bool b, .string T, .int .i64 (e + L.length - trimLen L), .int .i64 0]) (put4_results rfl rfl r0 r1 r2 r3 _ _ _ _) rfl ⟨rfl, put4_below hw (Nat.le_refl _) _ _ _ _⟩
theorem number_any (b : Bool) (n : Nat) (e : Int) (w : World) (hs : (decB n).size ≤ 20000) (he0 : -2000000000 ≤ e) (he1 : e ≤ 2000000000) :
    Calls Try.prog 39 #[.bool b, .string (decB n), .int .i64 e] w fun r w' => r = .returned (numV b n e) ∧ Below w.heap.size w w' := by
  by_cases h : n = 0
  · subst h; rw [dec_zero]; exact number_zero b e w
  · exact number_pos b n e w (by omega) hs he0 he1
end Go.Proofs.Ytpffegkckejpiaa
