/- The iterator of package lines: for every body it tells the pieces of its list one by one. -/
import Derived.Test.YtcijjbnkdjmklaaCuts
import Derived.RangeFuncNested
import Derived.RangeFuncBound
import Derived.RangeFuncCalls
import Derived.RangeFuncLeaves
import Derived.Shelf.Abstract
import Derived.Shelf.RegionOpen
import Derived.OwnWalkIn
import Derived.TacticsInMore
import Derived.LoopNIn
import Derived.LoopIn
import Derived.Maps.AppendAt
import Derived.Stop.RegionWithIn
set_option linter.unusedVariables false
set_option linter.unusedSimpArgs false
namespace Go.Proofs.Ytcijjbnkdjmklaa
open Go.RowKit Go.Shelf
attribute [local go_sem] Oper.semAt_some

/-- A piece, as it is handed to the body. -/
def encP (b o cap : Nat) (x : Nat × Nat) : Array Value := #[.slice (some ⟨b, o + x.1, none⟩) x.2 (cap - x.1)]
/-- Where a piece of t may lie. -/
abbrev Pc (t : List Int) : Type := { x : Nat × Nat // x.1 < t.length ∧ x.1 + x.2 ≤ t.length }

def slen : Value → Nat
  | .slice _ n _ => n
  | _ => 0

theorem Is.part {w : World} {b o : Nat} {t : List Int} (h : Is w (some ⟨b, o, none⟩) t) (k : Nat) : Is w (some ⟨b, o + k, none⟩) (t.drop k) := h.drop k

theorem index_in (n b o k cap : Nat) (t : List Int) (w : World) (hm : (t.length : Int) ≤ 9223372036854775807) (h : Is w (some ⟨b, o, none⟩) t) :
    CallsIn Fence.wide n Try.prog 30 #[.slice (some ⟨b, o + k, none⟩) (t.length - k) (cap - k), .func (.func 31) #[] #[]] w fun e w' => e = .returned (.int .i64 (firstOf endP (t.drop k))) ∧ w' = w := by
  have := indexEnd_any (some ⟨b, o + k, none⟩) (t.drop k) (cap - k) w (by rw [List.length_drop]; omega) (h.drop k)
  rw [List.length_drop] at this
  exact callsIn_wide.2 this

theorem endSize_in (n b o k s cap : Nat) (t : List Int) (w : World) (hm : t.length ≤ maxLen) (hs : k + s < t.length) (h : Is w (some ⟨b, o, none⟩) t) :
    CallsIn Fence.wide n Try.prog 32 #[.slice (some ⟨b, o + k + s, none⟩) (t.length - k - s) (cap - k - s)] w fun e w' => e = .returned (.int .i64 (endSz (t.drop (k + s)))) ∧ w' = w := by
  have := endSize_any (some ⟨b, o + (k + s), none⟩) (t.drop (k + s)) (cap - k - s) w (by rw [List.length_drop]; omega) (by rw [List.length_drop]; omega) (h.drop (k + s))
  rw [List.length_drop, ← Nat.sub_sub, ← Nat.add_assoc] at this
  exact callsIn_wide.2 this

theorem slice_to (b o len cap s : Nat) (hs : s ≤ cap) (w2 : World) :
    (Instr.slice 22 (.slice (some ⟨b, o, none⟩) len cap) none (some (.int .i64 s)) none).run Try.prog w2 = .ok (.slice (some ⟨b, o, none⟩) s cap) w2 := by
  have h0 : (s : Int) ≤ cap := by omega
  have u := Try.underlying22
  have z := Try.sizeOf3
  simp [go_sem, h0, add_plain]

set_option maxRecDepth 100000 in
set_option maxHeartbeats 1600000 in
theorem pieces1_in (n : Nat) (hn : 1 ≤ n) (l Bb n₀ b o cap : Nat) (p : Option Addr) (t : List Int) (hp : 0 < t.length → p = some ⟨b, o, none⟩) (hl : t.length ≤ cap) (hc : cap ≤ maxLen)
    (J Jx : List (Pc t) → World → Prop) (W : World) (hn₀ : n₀ ≤ W.heap.size) (hJ : AbidesFrom W.heap.size J)
    (hY : ∀ pre x W1, J pre W1 → pre.length < t.length → YieldAt Fence.wide (n - 1) Try.prog l (encP b o cap x.1) W1 fun e W' =>
      (e = .returned (.bool true) ∧ J (pre ++ [x]) W' ∧ Below n₀ W1 W') ∨ (e = .returned (.bool false) ∧ Jx (pre ++ [x]) W'))
    (hBb : W.cell? ⟨Bb, 0, none⟩ = some (.slice p t.length cap)) (hI : Is W p t) (hb : 0 < t.length → b < n₀) (h0 : J [] W) :
    CallsIn Fence.wide n Try.prog 29 #[.func (.yield l) #[] #[], .pointer (some ⟨Bb, 0, none⟩)] W fun e W' => (∃ v, e = .returned v) ∧
      ((∃ ys : List (Pc t), ys.map (·.1) = cutsAt t 0 ∧ J ys W') ∨ (∃ pre : List (Pc t), pre.map (·.1) <+: cutsAt t 0 ∧ Jx pre W')) := by
  have hc' := hc
  unfold maxLen at hc'
  refine callsIn_of_wp Try.func29 rfl trivial ?_ rfl
  simp only [Try.ntmps29, List.size_toArray, List.length_cons, List.length_nil, Nat.reduceAdd, Nat.reduceSub, Array.replicate_succ, Array.replicate_zero, List.push_toArray, List.append_toArray, List.nil_append, List.cons_append]
  gi_wp2
  gi_loopw [3] (fun v wr => ∃ (k m c : Nat) (q : Option Addr) (pre : List (Pc t)), k ≤ t.length ∧ v = .slice q m c ∧ m = t.length - k ∧ c = cap - k ∧ (k < t.length → q = some ⟨b, o + k, none⟩) ∧ pre.length ≤ k ∧ Hid (cutsAt t 0 = pre.map (·.1) ++ cutsAt t k) ∧ J pre wr ∧ Below n₀ W wr)
    (fun v _ => slen v)
  case atStart => exact ⟨0, _, _, _, [], Nat.zero_le _, rfl, rfl, rfl, fun h => hp h, Nat.le_refl _, rfl, h0, Below.refl _ _⟩
  case round =>
    obtain ⟨k, m, c, q, pre, hk, rfl, rfl, rfl, hq, hpk, Hs, hJs, hK⟩ := hrel
    by_cases hlt : k < t.length
    · obtain rfl := hq hlt
      rw [hp (by omega)] at hI
      have hIr : Is wr (some ⟨b, o, none⟩) t := hI.below (fun a e _ => by cases e; exact hb (by omega)) hK
      have hul := upTo_le t k
      have C1 := fun n => index_in n b o k cap t wr (by omega) hIr
      have hpos : (0 : Int) < ((t.length - k : Nat) : Int) := by omega
      by_cases hs : k + upTo endP (t.drop k) < t.length
      · have hf : firstOf endP (t.drop k) = (upTo endP (t.drop k) : Nat) := by unfold firstOf; rw [if_pos (by rw [List.length_drop]; omega)]
        rw [hf] at C1
        obtain ⟨y, hy1⟩ : ∃ y : Pc t, y.1 = (k, upTo endP (t.drop k)) := ⟨⟨_, hlt, by simp; omega⟩, rfl⟩
        have HS : Hid (cutsAt t 0 = ((pre ++ [y]).map (·.1)) ++ cutsAt t (k + upTo endP (t.drop k) + endSz (t.drop (k + upTo endP (t.drop k))))) := by
          show cutsAt t 0 = _
          rw [Hs.out, cuts_more hlt rfl hs]
          simp [hy1]
        have Y := hY pre y wr hJs (by omega)
        rw [hy1] at Y
        have E := fun n w2 h => endSize_in n b o k (upTo endP (t.drop k)) cap t w2 (by unfold maxLen; omega) hs h
        have he := endSz_pos (t.drop (k + upTo endP (t.drop k)))
        have he2 := endSz_le (t.drop (k + upTo endP (t.drop k))) (by rw [List.length_drop]; omega)
        rw [List.length_drop] at he2
        simp only [encP] at Y
        clear hy1
        generalize upTo endP (t.drop k) = s at C1 HS Y E he he2 hul hs hf
        generalize endSz (t.drop (k + s)) = e at E HS he he2
        have S1 := slice_to b (o + k) (t.length - k) (cap - k) s (by omega)
        have S2 : ∀ w2, (Instr.slice 22 (.slice (some ⟨b, o + k, none⟩) (t.length - k) (cap - k)) (some (.int .i64 s)) none none).run Try.prog w2 = .ok (.slice (some ⟨b, o + k + s, none⟩) (t.length - k - s) (cap - k - s)) w2 := by
          intro w2
          rw [slice_from _ _ _ _ (by omega) (by omega) w2, if_neg (by omega), Option.map_some, add_plain]
        have S3 : ∀ w2, (Instr.slice 22 (.slice (some ⟨b, o + k, none⟩) (t.length - k) (cap - k)) (some (.int .i64 ((s : Int) + (e : Int)))) none none).run Try.prog w2 = .ok (.slice (if cap - k = s + e then some ⟨b, o + k, none⟩ else some ⟨b, o + k + (s + e), none⟩) (t.length - k - (s + e)) (cap - k - (s + e))) w2 := by
          intro w2
          have := slice_from (some ⟨b, o + k, none⟩) (t.length - k) (cap - k) (s + e) (by omega) (by omega) w2
          rw [Option.map_some, add_plain] at this
          rw [← this]
          simp
        have hq' : k + s + e < t.length → (if cap - k = s + e then some (⟨b, o + k, none⟩ : Addr) else some ⟨b, o + k + (s + e), none⟩) = some ⟨b, o + (k + s + e), none⟩ := by
          intro h
          rw [if_neg (by omega)]
          simp [Nat.add_assoc]
        generalize (if cap - k = s + e then some (⟨b, o + k, none⟩ : Addr) else some ⟨b, o + k + (s + e), none⟩) = q' at S3 hq'
        have HQ : Hid (k + s + e < t.length → q' = some ⟨b, o + (k + s + e), none⟩) := hq'
        obtain ⟨fn, tmps, assign, body, hy, hR⟩ := Y
        clear hY hJ hq' hf hq Hs
        gi_wp2_with (first | (refine ⟨trivial, ?_⟩; gi_at_call 30; refine (C1 _).mono ?_; rintro e w' ⟨rfl, rfl⟩))
        refine hR.mono ?_
        rintro e3 W3 (⟨rfl, hJ3, hk3⟩ | ⟨rfl, hJx3⟩)
        · have hI3 : Is W3 (some ⟨b, o, none⟩) t := hIr.below (fun a e _ => by cases e; exact hb (by omega)) hk3
          clear hR hy C1
          gi_wp2_with (first | (refine ⟨trivial, ?_⟩; gi_at_call 32; refine (E _ _ hI3).mono ?_; rintro e w' ⟨rfl, rfl⟩))
          go_roundw
          case rel => exact ⟨k + s + e, _, _, q', pre ++ [y], by omega, rfl, by omega, by omega, HQ.out, by simp; omega, HS.out, hJ3, hK.trans hk3⟩
          case measure => simp [slen]; omega
        · gi_wp2
          refine bodyPost_ret (results_none rfl _ _ _) rfl ?_
          exact ⟨⟨_, rfl⟩, .inr ⟨_, ⟨_, HS.out.symm⟩, hJx3⟩⟩
      · have hf : firstOf endP (t.drop k) = -1 := by unfold firstOf; rw [if_neg (by rw [List.length_drop]; omega)]
        rw [hf] at C1
        obtain ⟨y, hy1⟩ : ∃ y : Pc t, y.1 = (k, t.length - k) := ⟨⟨_, hlt, by simp; omega⟩, rfl⟩
        have HS : Hid (cutsAt t 0 = (pre ++ [y]).map (·.1)) := by
          show cutsAt t 0 = _
          rw [Hs.out, cuts_last hlt hs]
          simp [hy1]
        have Y := hY pre y wr hJs (by omega)
        rw [hy1] at Y
        clear hy1
        simp only [encP] at Y
        obtain ⟨fn, tmps, assign, body, hy, hR⟩ := Y
        clear hY hJ hf hq Hs hs hul
        gi_wp2_with (first | (refine ⟨trivial, ?_⟩; gi_at_call 30; refine (C1 _).mono ?_; rintro e w' ⟨rfl, rfl⟩))
        refine hR.mono ?_
        rintro e3 W3 (⟨rfl, hJ3, hk3⟩ | ⟨rfl, hJx3⟩)
        · gi_wp2
          refine bodyPost_ret (results_none rfl _ _ _) rfl ?_
          exact ⟨⟨_, rfl⟩, .inl ⟨_, HS.out.symm, hJ3⟩⟩
        · gi_wp2
          refine bodyPost_ret (results_none rfl _ _ _) rfl ?_
          exact ⟨⟨_, rfl⟩, .inr ⟨_, by rw [HS.out]; exact List.prefix_refl _, hJx3⟩⟩
    · have hz : t.length - k = 0 := by omega
      rw [hz]
      have HS : Hid (cutsAt t 0 = pre.map (·.1)) := by
        show cutsAt t 0 = _
        rw [Hs.out, cuts_end hlt, List.append_nil]
      clear hY hJ
      gi_wp2
      go_end0
      exact ⟨⟨_, rfl⟩, .inl ⟨pre, HS.out.symm, hJs⟩⟩
end Go.Proofs.Ytcijjbnkdjmklaa
