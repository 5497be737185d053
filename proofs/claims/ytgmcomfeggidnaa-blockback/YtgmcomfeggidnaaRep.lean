/- repeat and each: they hand code points on to yield, one by one. -/
import Derived.Test.YtgmcomfeggidnaaYld
set_option linter.unusedVariables false
set_option linter.unusedSimpArgs false
namespace Go.Proofs.Ytgmcomfeggidnaa
open Go.RowKit Go.Shelf
attribute [local go_sem] Oper.semAt_some

def encI (x : Int) : Array Value := #[.int .i64 x]

set_option maxRecDepth 100000 in
set_option maxHeartbeats 1600000 in
theorem repeat_in {n₀ N B l : Nat} {J : (Nat → Prop) → List Int → World → Prop} (hJ : Abx B J) (hY : Rounds n₀ N Try.prog l encI J) (n : Nat) (X : Nat → Prop) (pre : List Int) (W : World) (c k : Int)
    (h0 : J X pre W) (hn : n₀ ≤ W.heap.size) (hk : pre.length + k.toNat ≤ N) (hk2 : k ≤ 1099511627776) :
    CallsIn Fence.wide n Try.prog 60 #[.agg #[.int .i64 c, .int .i64 k], .func (.yield l) #[] #[]] W fun e W' => e = .returned (.bool true) ∧ J X (pre ++ List.replicate k.toNat c) W' ∧ Kx n₀ l X W W' := by
  have hX : ∀ b, X b → b < W.heap.size := fun b hb => hJ.lt X pre W b h0 hb
  have hJ1 := hJ.new X pre W (.cells #[.int .i64 c, .int .i64 k] 87) h0
  have hK1 : Kx n₀ l X W (W.alloc (.cells #[.int .i64 c, .int .i64 k] 87)) := Kx.alloc hn hX _
  have hbk : (W.alloc (.cells #[.int .i64 c, .int .i64 k] 87)).heap[W.heap.size]? = some (.cells #[.int .i64 c, .int .i64 k] 87) := World.alloc_heap_new W _
  have HJ1 : Hid (J (more X W.heap.size) pre (W.alloc (.cells #[.int .i64 c, .int .i64 k] 87))) := hJ1
  have HK1 : Hid (Kx n₀ l X W (W.alloc (.cells #[.int .i64 c, .int .i64 k] 87))) := hK1
  have HB : Hid ((W.alloc (.cells #[.int .i64 c, .int .i64 k] 87)).heap[W.heap.size]? = some (.cells #[.int .i64 c, .int .i64 k] 87)) := hbk
  clear hJ1 hK1 hbk
  refine callsIn_of_wp Try.func60 rfl trivial ?_ rfl
  simp only [Try.ntmps60, List.size_toArray, List.length_cons, List.length_nil, Nat.reduceAdd, Nat.reduceSub, Array.replicate_succ, Array.replicate_zero, List.push_toArray, List.append_toArray, List.nil_append, List.cons_append]
  gi_wp2
  generalize W.alloc (.cells #[.int .i64 c, .int .i64 k] 87) = W1 at HJ1 HK1 HB ⊢
  gi_loopw [7] (fun iv wr => ∃ (j : Nat), (j : Int) ≤ max k 0 ∧ iv = .int .i64 j ∧ J (more X W.heap.size) (pre ++ List.replicate j c) wr ∧ Kx n₀ l (more X W.heap.size) W1 wr)
    (fun iv _ => k.toNat - (intOf iv).toNat)
  case atStart => exact ⟨0, by omega, rfl, by simpa using HJ1.out, Kx.refl _ _ _ _⟩
  case round =>
    obtain ⟨j, hj, rfl, hJs, hK⟩ := hrel
    have hb := (hK.own W.heap.size (.inr rfl)).trans HB.out
    have c0 : wr.cell? ⟨W.heap.size, 0, none⟩ = some (.int .i64 c) := by simp [World.cell?, hb]
    clear hb
    by_cases hlt : (j : Int) < k
    · have Y := hY (n - 1) (more X W.heap.size) _ c wr hJs (by simp; omega)
      simp only [encI] at Y
      obtain ⟨fn, tmps, assign, body, hy, hR⟩ := Y
      clear hY hJ
      gi_wp2
      refine ⟨(fun h => by cases h), hR.mono ?_⟩
      rintro e3 W3 ⟨rfl, hJ3, hk3⟩
      clear hR hy
      gi_wp2
      go_roundw
      case rel =>
        refine ⟨j + 1, by omega, by go_num, ?_, hK.trans hk3⟩
        rw [List.append_assoc] at hJ3
        rw [List.replicate_succ']
        exact hJ3
      case measure => simp [intOf]; omega
    · have hj2 : j = k.toNat := by omega
      subst hj2
      clear hY
      gi_wp2
      go_ret
      exact ⟨rfl, hJ.less _ _ _ _ hJs (fun b hb => .inl hb), HK1.out.trans (hK.less fun b hb => .inl hb)⟩

theorem take_more {t : List Int} {j : Nat} (h : j < t.length) : t.take (j + 1) = t.take j ++ [iAt t j] := by
  rw [List.take_add_one]
  simp [iAt, h]

set_option maxRecDepth 100000 in
set_option maxHeartbeats 1600000 in
theorem each_in {n₀ N B l : Nat} {J : (Nat → Prop) → List Int → World → Prop} (hJ : Abx B J) (hY : Rounds n₀ N Try.prog l encI J) (n : Nat) (X : Nat → Prop) (pre : List Int) (W : World) (q : Option Addr) (t : List Int) (cap : Nat)
    (h0 : J X pre W) (hI : Is W q t) (hq : ∀ a, q = some a → 0 < t.length → a.block < n₀) (hk : pre.length + t.length ≤ N) (hk2 : t.length ≤ 1099511627776) :
    CallsIn Fence.wide n Try.prog 62 #[.slice q t.length cap, .func (.yield l) #[] #[]] W fun e W' => e = .returned (.bool true) ∧ J X (pre ++ t) W' ∧ Kx n₀ l X W W' := by
  refine callsIn_of_wp Try.func62 rfl trivial ?_ rfl
  simp only [Try.ntmps62, List.size_toArray, List.length_cons, List.length_nil, Nat.reduceAdd, Nat.reduceSub, Array.replicate_succ, Array.replicate_zero, List.push_toArray, List.append_toArray, List.nil_append, List.cons_append]
  gi_wp2
  gi_loopw [9] (fun iv wr => ∃ (j : Nat), j ≤ t.length ∧ iv = .int .i64 j ∧ J X (pre ++ t.take j) wr ∧ Kx n₀ l X W wr)
    (fun iv _ => t.length - (intOf iv).toNat)
  case atStart => exact ⟨0, by omega, rfl, by simpa using h0, Kx.refl _ _ _ _⟩
  case round =>
    obtain ⟨j, hj, rfl, hJs, hK⟩ := hrel
    by_cases hlt : j < t.length
    · have hli : (j : Int) < t.length := by omega
      have hIr : Is wr q t := hI.below hq hK.below
      obtain ⟨b, o, rfl, hcell⟩ := hIr.at (by omega)
      have c0 := hcell j hlt
      have Y := hY (n - 1) X _ (iAt t j) wr hJs (by simp; omega)
      have HT : Hid (t.take (j + 1) = t.take j ++ [iAt t j]) := take_more hlt
      simp only [encI] at Y
      obtain ⟨fn, tmps, assign, body, hy, hR⟩ := Y
      generalize iAt t j = x at c0 hy hR HT
      clear hY hJ hcell hIr
      gi_wp2
      refine ⟨(fun h => by cases h), hR.mono ?_⟩
      rintro e3 W3 ⟨rfl, hJ3, hk3⟩
      clear hR hy
      gi_wp2
      go_roundw
      case rel =>
        refine ⟨j + 1, by omega, by go_num, ?_, hK.trans hk3⟩
        rw [HT.out, ← List.append_assoc]
        exact hJ3
      case measure => simp [intOf]; omega
    · have hj2 : j = t.length := by omega
      subst hj2
      clear hY
      rw [List.take_length] at hJs
      gi_wp2
      go_ret
      exact ⟨rfl, hJs, hK⟩
end Go.Proofs.Ytgmcomfeggidnaa
