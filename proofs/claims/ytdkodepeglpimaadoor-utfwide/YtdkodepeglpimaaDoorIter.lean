/- The iterator of package utf: for every body it tells the code points of its bytes one by one. -/
import Derived.Test.YtdkodepeglpimaaDoorSeq
import Derived.RangeFuncNested
import Derived.RangeFuncBound
import Derived.RangeFuncCalls
import Derived.RangeFuncLeaves
import Derived.Shelf.Abstract
import Derived.Shelf.RegionOpen
import Derived.OwnWalkIn
import Derived.TacticsInMore
import Derived.LoopNIn
import Derived.LoopIn
import Derived.Maps.AppendAt
import Derived.Stop.RegionWithIn
set_option linter.unusedVariables false
set_option linter.unusedSimpArgs false
namespace Go.Proofs.YtdkodepeglpimaaDoor
open Go.RowKit Go.Shelf
attribute [local go_sem] Oper.semAt_some

/-- What a round keeps: all that lay below n₀, and the iterator's two boxes. -/
def Kp2 (n₀ Bb Bf : Nat) (A B : World) : Prop := Below n₀ A B ∧ B.heap[Bb]? = A.heap[Bb]? ∧ B.heap[Bf]? = A.heap[Bf]?

theorem Kp2.cellB {n₀ Bb Bf : Nat} {A B : World} (h : Kp2 n₀ Bb Bf A B) (o : Nat) : B.cell? ⟨Bb, o, none⟩ = A.cell? ⟨Bb, o, none⟩ := World.cell?_of_block h.2.1
theorem Kp2.cellF {n₀ Bb Bf : Nat} {A B : World} (h : Kp2 n₀ Bb Bf A B) (o : Nat) : B.cell? ⟨Bf, o, none⟩ = A.cell? ⟨Bf, o, none⟩ := World.cell?_of_block h.2.2
theorem Kp2.trans {n₀ Bb Bf : Nat} {A B C : World} (h : Kp2 n₀ Bb Bf A B) (k : Kp2 n₀ Bb Bf B C) : Kp2 n₀ Bb Bf A C := ⟨h.1.trans k.1, k.2.1.trans h.2.1, k.2.2.trans h.2.2⟩
theorem Kp2.refl (n₀ Bb Bf : Nat) (A : World) : Kp2 n₀ Bb Bf A A := ⟨Below.refl _ _, rfl, rfl⟩

/-- Bytes that lie below n₀, and the two tables. -/
def Lies (n₀ : Nat) (W : World) (p : Option Addr) (bs : List UInt8) : Prop := Bs W p bs ∧ Lib.Utf8Tabs 0 1 W ∧ 1 < n₀ ∧ ∀ a, p = some a → 0 < bs.length → a.block < n₀

theorem Bs.below {n₀ : Nat} {A B : World} {p : Option Addr} {l : List UInt8} (h : Bs A p l) (hp : ∀ a, p = some a → 0 < l.length → a.block < n₀) (hb : Below n₀ A B) : Bs B p l := by
  rcases h with rfl | ⟨b, o, rfl, hc⟩
  · exact .inl rfl
  · exact .inr ⟨b, o, rfl, fun j hj => (hb.cell (p := ⟨b, o + j, none⟩) (hp ⟨b, o, none⟩ rfl (by omega))).trans (hc j hj)⟩
theorem tabs_below {n₀ : Nat} {A B : World} (h : Lib.Utf8Tabs 0 1 A) (hn : 1 < n₀) (hb : Below n₀ A B) : Lib.Utf8Tabs 0 1 B :=
  ⟨fun c hc => (hb.cell (p := ⟨0, c, none⟩) (by show 0 < n₀; omega)).trans (h.1 c hc), fun i hi => ⟨(hb.cell (p := ⟨1, 2 * i, none⟩) hn).trans (h.2 i hi).1, (hb.cell (p := ⟨1, 2 * i + 1, none⟩) hn).trans (h.2 i hi).2⟩⟩
theorem Lies.below {n₀ : Nat} {A B : World} {p : Option Addr} {bs : List UInt8} (h : Lies n₀ A p bs) (hb : Below n₀ A B) : Lies n₀ B p bs :=
  ⟨h.1.below h.2.2.2 hb, tabs_below h.2.1 h.2.2.1 hb, h.2.2⟩

theorem Lies.drew {n₀ : Nat} {A : World} {p : Option Addr} {bs : List UInt8} (h : Lies n₀ A p bs) : Lies n₀ A.drew p bs := h.below ((Below.refl _ _).drew)

theorem Bs.drop {w : World} {b o : Nat} {l : List UInt8} (h : Bs w (some ⟨b, o, none⟩) l) (k : Nat) : Bs w (some ⟨b, o + k, none⟩) (l.drop k) := by
  rcases h with rfl | ⟨b', o', e, hc⟩
  · exact .inl (by simp)
  · cases e
    refine .inr ⟨b, o + k, rfl, fun j hj => ?_⟩
    have hj' : k + j < l.length := by simp at hj; omega
    rw [Nat.add_assoc, hc (k + j) hj']
    simp

theorem first_at (form : Int) (k b o cap n₀ : Nat) (bs : List UInt8) (w : World) (hk : k < bs.length) (hl : bs.length ≤ cap) (hc : cap ≤ maxLen) (h : Lies n₀ w (some ⟨b, o, none⟩) bs) (d1 d2 : Int) (hd : firstP form (bs.drop k) = (d1, d2)) :
    Calls Tryd.prog 29 #[.slice (some ⟨b, o + k, none⟩) (bs.length - k) (cap - k), .int .i64 form] w fun e w' => e = .returned (.tuple #[.int .i64 d1, .int .i64 d2]) ∧ Below w.heap.size w w' := by
  have h1 := first_any form (some ⟨b, o + k, none⟩) (bs.drop k) (cap - k) w (by simp; omega) (by simp; omega) (by omega) (h.1.drop k) h.2.1
  rw [hd, List.length_drop] at h1
  exact h1

theorem first_at_in (m : Nat) (form : Int) (k b o cap n₀ : Nat) (bs : List UInt8) (w : World) (hk : k < bs.length) (hl : bs.length ≤ cap) (hc : cap ≤ maxLen) (h : Lies n₀ w (some ⟨b, o, none⟩) bs) (d1 d2 : Int) (hd : firstP form (bs.drop k) = (d1, d2)) :
    CallsIn Fence.wide m Tryd.prog 29 #[.slice (some ⟨b, o + k, none⟩) (bs.length - k) (cap - k), .int .i64 form] w fun e w' => e = .returned (.tuple #[.int .i64 d1, .int .i64 d2]) ∧ Below w.heap.size w w' :=
  callsIn_wide.2 (first_at form k b o cap n₀ bs w hk hl hc h d1 d2 hd)

set_option maxRecDepth 100000 in
set_option maxHeartbeats 800000 in
theorem points1_in (n : Nat) (hn : 1 ≤ n) (l Bb Bf n₀ cap : Nat) (p : Option Addr) (bs : List UInt8) (form : Int) (hl : bs.length ≤ cap) (hc : cap ≤ maxLen)
    (J Jx : List (Int × Bool) → World → Prop) (W : World) (hn₀ : n₀ ≤ W.heap.size) (hJ : AbidesFrom W.heap.size J)
    (hY : ∀ pre x W1, J pre W1 → pre.length < bs.length → YieldAt Fence.wide (n - 1) Tryd.prog l #[.int .i64 x.1, .bool x.2] W1 fun e W' =>
      (e = .returned (.bool true) ∧ J (pre ++ [x]) W' ∧ Kp2 n₀ Bb Bf W1 W') ∨ (e = .returned (.bool false) ∧ Jx (pre ++ [x]) W'))
    (hBb : W.cell? ⟨Bb, 0, none⟩ = some (.slice p bs.length cap)) (hBf : W.cell? ⟨Bf, 0, none⟩ = some (.int .i64 form)) (hL : Lies n₀ W p bs) (h0 : J [] W) :
    CallsIn Fence.wide n Tryd.prog 28 #[.func (.yield l) #[] #[], .pointer (some ⟨Bb, 0, none⟩), .pointer (some ⟨Bf, 0, none⟩)] W fun e W' => (∃ v, e = .returned v) ∧
      ((∃ ys, ys = seqS form 0 bs ∧ J ys W') ∨ (∃ pre, pre <+: seqS form 0 bs ∧ Jx pre W')) := by
  have hc' := hc
  unfold maxLen at hc'
  refine callsIn_of_wp Tryd.func28 rfl trivial ?_ rfl
  simp only [Tryd.ntmps28, List.size_toArray, List.length_cons, List.length_nil, Nat.reduceAdd, Nat.reduceSub, Array.replicate_succ, Array.replicate_zero, List.push_toArray, List.append_toArray, List.nil_append, List.cons_append]
  gi_wp2
  gi_loopw [4] (fun i wr => ∃ (k : Nat) (pre : List (Int × Bool)), k ≤ bs.length ∧ i = .int .i64 k ∧ pre.length ≤ k ∧ seqS form 0 bs = pre ++ seqS form 0 (bs.drop k) ∧ J pre wr ∧ Kp2 n₀ Bb Bf W wr ∧ W.heap.size ≤ wr.heap.size)
    (fun i _ => bs.length - (intOf i).toNat)
  case atStart => exact ⟨0, [], Nat.zero_le _, rfl, Nat.le_refl _, by simp, h0, Kp2.refl _ _ _ _, Nat.le_refl _⟩
  case round =>
    obtain ⟨k, pre, hk, rfl, hpk, hs, hJs, hK, hz⟩ := hrel
    have cB := (hK.cellB 0).trans hBb
    have cF := (hK.cellF 0).trans hBf
    by_cases hlt : k < bs.length
    · obtain ⟨b, o, rfl, -⟩ := hL.1.at (by omega)
      obtain ⟨⟨d1, d2⟩, hd⟩ : ∃ d, firstP form (bs.drop k) = d := ⟨_, rfl⟩
      have Hd : Hid (firstP form (bs.drop k) = (d1, d2)) := hd
      have hsz := firstP_size form (bs.drop k) (by simp; omega)
      rw [hd] at hsz
      simp only [List.length_drop] at hsz
      have hLr := hL.below hK.1
      have Hs : Hid (seqS form 0 bs = pre ++ seqS form 0 (bs.drop k)) := hs
      have hck : ¬ cap = k := by omega
      clear hd hs
      gi_wp2
      gi_region_with (refine ⟨trivial, ?_⟩; gi_at_call 29; refine (first_at_in _ form k b o cap n₀ bs _ hlt hl hc hLr.drew d1 d2 Hd.out).mono ?_; rintro e w' ⟨rfl, hb⟩)
      all_goals
        have hb' : Below wr.heap.size wr w' := ((Below.refl _ wr).drew).trans hb
        have lB : Bb < wr.heap.size := block_lt_of_cell cB
        have lF : Bf < wr.heap.size := block_lt_of_cell cF
        have hK' : Kp2 n₀ Bb Bf wr w' := ⟨hb'.mono (by omega), hb'.block _ lB, hb'.block _ lF⟩
        have hJ' : J pre w' := hJ pre wr w' none hJs ⟨hb'.os, hb'.tape, hb'.output, hb'.size, fun j hj _ => hb'.block j hj⟩ (fun r e => by cases e)
        have hz' : W.heap.size ≤ w'.heap.size := Nat.le_trans hz hb'.size
        have HK : Hid (Kp2 n₀ Bb Bf W w') := hK.trans hK'
        clear hb hb' lB lF hK' hK hLr cB cF hz hJs
        by_cases hd2 : d2 = 0
        · have t2 : (d2 == 0) = true := by simpa using hd2
          have hseq : seqS form 0 bs = pre ++ [(0, false)] := by rw [Hs.out, seqS_bad form _ (by simp; omega) (by rw [Hd.out]; exact hd2)]
          have HS : Hid (seqS form 0 bs = pre ++ [(0, false)]) := hseq
          obtain ⟨fn, tmps, assign, body, hy, hR⟩ := hY pre (0, false) w' hJ' (by omega)
          dsimp only at hy
          clear hd2 hseq hY hJ
          gi_wp2
          refine hR.mono ?_
          rintro e W3 (⟨rfl, hJ3, -⟩ | ⟨rfl, hJx3⟩)
          · gi_wp2
            refine bodyPost_ret (results_none rfl _ _ _) rfl ?_
            exact ⟨⟨_, rfl⟩, .inl ⟨_, HS.out.symm, hJ3⟩⟩
          · gi_wp2
            refine bodyPost_ret (results_none rfl _ _ _) rfl ?_
            exact ⟨⟨_, rfl⟩, .inr ⟨_, by rw [HS.out]; exact List.prefix_refl _, hJx3⟩⟩
        · have t2 : (d2 == 0) = false := by simpa using hd2
          obtain ⟨s, rfl⟩ := Int.eq_ofNat_of_zero_le hsz.1
          have hs1 : 1 ≤ s := by omega
          have hs2 : s ≤ bs.length - k := by omega
          have hseq : seqS form 0 bs = (pre ++ [(d1, true)]) ++ seqS form 0 (bs.drop (k + s)) := by
            rw [Hs.out, seqS_good form _ (by simp; omega) (by rw [Hd.out]; exact hd2) (by rw [Hd.out]; exact hsz.1), Hd.out]
            simp
          have HS : Hid (seqS form 0 bs = (pre ++ [(d1, true)]) ++ seqS form 0 (bs.drop (k + s))) := hseq
          obtain ⟨fn, tmps, assign, body, hy, hR⟩ := hY pre (d1, true) w' hJ' (by omega)
          dsimp only at hy
          clear hd2 hseq hY hJ
          gi_wp2
          refine hR.mono ?_
          rintro e W3 (⟨rfl, hJ3, hk3⟩ | ⟨rfl, hJx3⟩)
          · gi_wp2
            go_roundw
            case rel => exact ⟨k + s, pre ++ [(d1, true)], by omega, by go_num, by simp; omega, HS.out, hJ3, HK.out.trans hk3, Nat.le_trans hz' hk3.1.size⟩
            case measure => simp [intOf]; omega
          · gi_wp2
            refine bodyPost_ret (results_none rfl _ _ _) rfl ?_
            exact ⟨⟨_, rfl⟩, .inr ⟨_, ⟨_, HS.out.symm⟩, hJx3⟩⟩
    · obtain rfl : k = bs.length := by omega
      gi_wp2
      go_end0
      refine ⟨⟨_, rfl⟩, .inl ⟨pre, ?_, hJs⟩⟩
      rw [hs]
      simp [seqS]
end Go.Proofs.YtdkodepeglpimaaDoor
