/- The iterator over the signs of a line, as it runs. -/
import Derived.Test.YtdpeiggppemmcaaSgp
set_option linter.unusedVariables false
set_option linter.unusedSimpArgs false
namespace Go.Proofs.Ytdpeiggppemmcaa
open Go.RowKit Go.Shelf
attribute [local go_sem] Oper.semAt_some

def encS (t : List Int) (i : Nat) : Array Value := #[.int .i64 (i : Nat), sgV t i]
theorem range_at {n i x : Nat} (h : (List.range n)[i]? = some x) : x = i ∧ i < n := by
  obtain ⟨h1, h2⟩ := List.getElem?_eq_some_iff.1 h
  simp at h1 h2
  exact ⟨h2.symm, h1⟩
theorem Kq.below {X : Nat → Prop} {A B : World} (h : Below A.heap.size A B) (hX : ∀ b, X b → b < A.heap.size) : Kq X A B := ⟨h.size, fun b hb => h.block b (hX b hb)⟩

set_option maxRecDepth 100000 in
set_option maxHeartbeats 2000000 in
theorem signs1_in (n l Bb cap : Nat) (q : Option Addr) (t : List Int) (hn : t.length ≤ 1099511627776) (J Jx : Nat → World → Prop) (W : World)
    (c1 : W.cell? ⟨Bb, 0, none⟩ = some (.slice q t.length cap)) (hI : Is W q t) (hJ : AbN J)
    (hY : ∀ (m i : Nat) (x : Nat) (W1 : World), (List.range t.length)[i]? = some x → J i W1 → YieldAt Fence.wide m Try.prog l (encS t x) W1 fun e W' =>
      (e = .returned (.bool true) ∧ J (i + 1) W' ∧ Kq (Xs q t Bb) W1 W') ∨ (e = .returned (.bool false) ∧ Jx (i + 1) W')) (h0 : J 0 W) :
    CallsIn Fence.wide n Try.prog 32 #[.func (.yield l) #[] #[], .pointer (some ⟨Bb, 0, none⟩)] W fun e W' => (∃ v, e = .returned v) ∧ (J (List.range t.length).length W' ∨ ∃ i, Jx i W') := by
  rw [List.length_range]
  have HY : Hid (∀ (m i : Nat) (x : Nat) (W1 : World), (List.range t.length)[i]? = some x → J i W1 → YieldAt Fence.wide m Try.prog l (encS t x) W1 fun e W' =>
      (e = .returned (.bool true) ∧ J (i + 1) W' ∧ Kq (Xs q t Bb) W1 W') ∨ (e = .returned (.bool false) ∧ Jx (i + 1) W')) := hY
  clear hY
  have hn2 : (t.length : Int) ≤ 1099511627776 := by omega
  refine callsIn_of_wp Try.func32 rfl trivial ?_ rfl
  simp only [Try.ntmps32, List.size_toArray, List.length_cons, List.length_nil, Nat.reduceAdd, Nat.reduceSub, Array.replicate_succ, Array.replicate_zero, List.push_toArray, List.append_toArray, List.nil_append, List.cons_append]
  gi_wp2
  gi_loopw [6] (fun iv wr => ∃ (k : Nat), k ≤ t.length ∧ iv = .int .i64 k ∧ J k wr ∧ Kq (Xs q t Bb) W wr) (fun iv _ => t.length - (intOf iv).toNat)
  case atStart => exact ⟨0, Nat.zero_le _, rfl, h0, Kq.refl _ _⟩
  case round =>
    obtain ⟨k, hk, rfl, hJr, hkr⟩ := hrel
    have d1 := hkr.box.trans c1
    by_cases hlt : k < t.length
    · have hli : (k : Int) < t.length := by omega
      have hIr := hkr.is hI
      have SA := fun m => (callsIn_wide (n := m)).2 (signAt_any q t cap k wr hn hIr hlt)
      have hXs := xs_lt (Bb := Bb) (B := wr.heap.size) hIr (World.block_lt_of_cell? wr _ d1) (Nat.le_refl _)
      gi_wp2
      refine ⟨trivial, (fun h => by cases h), ?_⟩
      gi_at_call 17
      refine (SA _).mono ?_
      rintro e W2 ⟨rfl, hb2⟩
      have Y := HY.out (n - 1) k k W2 (by simp [hlt]) (hJ _ _ _ hJr (grown_of_below hb2))
      simp only [encS] at Y
      obtain ⟨fn, tmps, assign, body, hy, hR⟩ := Y
      clear HY SA
      gi_wp2
      refine ⟨(fun h => by cases h), hR.mono ?_⟩
      rintro e3 W3 (⟨rfl, hJ3, hk3⟩ | ⟨rfl, hJx3⟩)
      · clear hR hy
        gi_wp2
        go_roundw
        case rel => exact ⟨k + 1, by omega, by go_num, hJ3, (hkr.trans (Kq.below hb2 hXs)).trans hk3⟩
        case measure => simp [intOf]; omega
      · clear hR hy
        gi_wp2
        refine bodyPost_ret (results_none rfl _ _ _) rfl ?_
        exact ⟨⟨_, rfl⟩, .inr ⟨_, hJx3⟩⟩
    · obtain rfl : k = t.length := by omega
      clear HY hJ
      gi_wp2
      go_end0
      exact ⟨⟨_, rfl⟩, .inl hJr⟩

theorem signs_seq (n Bb cap : Nat) (q : Option Addr) (t : List Int) (hn : t.length ≤ 1099511627776) (w : World) (c1 : w.cell? ⟨Bb, 0, none⟩ = some (.slice q t.length cap)) (hI : Is w q t) :
    SeqT n Try.prog 32 #[.pointer (some ⟨Bb, 0, none⟩)] (encS t) (List.range t.length) (Kq (Xs q t Bb)) w := fun l J Jx W hW _ hJ hJx hY h0 =>
  signs1_in n l Bb cap q t hn J Jx W ((hW.cell (p := ⟨Bb, 0, none⟩) (World.block_lt_of_cell? w _ c1)).trans c1) (hI.on hW) hJ hY h0
end Go.Proofs.Ytdpeiggppemmcaa
