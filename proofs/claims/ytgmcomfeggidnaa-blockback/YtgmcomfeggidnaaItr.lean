/- The two iterators of lines: which they tell, for every body. -/
import Derived.Test.YtgmcomfeggidnaaTrm
set_option linter.unusedVariables false
set_option linter.unusedSimpArgs false
namespace Go.Proofs.Ytgmcomfeggidnaa
open Go.RowKit Go.Shelf
attribute [local go_sem] Oper.semAt_some

/-- What the line at place i holds. -/
def tAt (R : List Row) (i : Nat) : List Int := (R[i]?.map (·.t)).getD []
theorem tAt_at {R : List Row} {i : Nat} {r : Row} (h : R[i]? = some r) : tAt R i = r.t := by simp [tAt, h]
/-- The line at place i without the blanks beside an end. -/
def trimG (R : List Row) (i : Nat) : List Int := trimF (decide (0 < i)) (decide (i + 1 < R.length)) (tAt R i)

/-- A line that is told: its place, and the slice; of such E holds. -/
def PcOk (R : List Row) (g : Nat → List Int) (E : Nat → Prop) (x : Nat × Value) : Prop := E x.1 ∧ ∃ (r : Row) (q : Option Addr) (c : Nat), R[x.1]? = some r ∧ x.2 = .slice q (g x.1).length c ∧ Sub r.q r.t q (g x.1)
abbrev Pc (R : List Row) (g : Nat → List Int) (E : Nat → Prop) : Type := { x : Nat × Value // PcOk R g E x }
def encP {R : List Row} {g : Nat → List Int} {E : Nat → Prop} (x : Pc R g E) : Array Value := #[.int .i64 (x.1.1 : Nat), x.1.2]
def places {R : List Row} {g : Nat → List Int} {E : Nat → Prop} (ys : List (Pc R g E)) : List Nat := ys.map (·.1.1)
theorem places_snoc {R : List Row} {g : Nat → List Int} {E : Nat → Prop} (ys : List (Pc R g E)) (y : Pc R g E) : places (ys ++ [y]) = places ys ++ [y.1.1] := by simp [places]

/-- The places below k that are told. -/
def told (s : Nat → Bool) (k : Nat) : List Nat := (List.range k).filter s
theorem told_yes {s : Nat → Bool} {k : Nat} (h : s k = true) : told s (k + 1) = told s k ++ [k] := by unfold told; rw [List.range_succ, List.filter_append]; simp [h]
theorem told_no {s : Nat → Bool} {k : Nat} (h : s k = false) : told s (k + 1) = told s k := by unfold told; rw [List.range_succ, List.filter_append]; simp [h]
theorem told_len (s : Nat → Bool) (k : Nat) : (told s k).length ≤ k := by
  unfold told
  exact Nat.le_trans (List.length_filter_le _ _) (by simp)

def tellF (R : List Row) (i : Nat) : Bool := !(decide (0 < i) && decide (i + 1 < R.length) && decide ((trimG R i).length = 0))
def tellW (R : List Row) (i : Nat) : Bool := decide (0 < (tAt R i).length)

/-- What a round keeps: all that lay below n₀, and the iterator's box. -/
def Kp (n₀ Bb : Nat) (A B : World) : Prop := Below n₀ A B ∧ B.heap[Bb]? = A.heap[Bb]?
theorem Kp.cellB {n₀ Bb : Nat} {A B : World} (h : Kp n₀ Bb A B) (o : Nat) : B.cell? ⟨Bb, o, none⟩ = A.cell? ⟨Bb, o, none⟩ := World.cell?_of_block h.2
theorem Kp.trans {n₀ Bb : Nat} {A B C : World} (h : Kp n₀ Bb A B) (k : Kp n₀ Bb B C) : Kp n₀ Bb A C := ⟨h.1.trans k.1, k.2.trans h.2⟩
theorem Kp.refl (n₀ Bb : Nat) (A : World) : Kp n₀ Bb A A := ⟨Below.refl _ _, rfl⟩
theorem hKb1 {w : World} {n₀ Bb : Nat} (hb : Bb < w.heap.size) (hn : n₀ ≤ w.heap.size) (W : World) (l : Nat) (o o' : Obj) (hl : w.heap.size ≤ l) (h : W.heap[l]? = some o) (h1 : o.isCells = false) (h2 : o.isWalk = false) : Kp n₀ Bb W (W.putObj l o') :=
  ⟨belowK_b hn W l o o' hl h h1 h2, World.putObj_heap_other (by omega)⟩

/-- Lines that lie below n₀. -/
def MtB (n₀ : Nat) (w : World) (p : Option Addr) (R : List Row) : Prop :=
  Mt w p R ∧ (∀ a, p = some a → 0 < R.length → a.block < n₀) ∧ ∀ (j : Nat) (r : Row), R[j]? = some r → ∀ a, r.q = some a → 0 < r.t.length → a.block < n₀
theorem MtB.on {n₀ : Nat} {A B : World} {p : Option Addr} {R : List Row} (h : MtB n₀ A p R) (hb : Below n₀ A B) : MtB n₀ B p R := by
  obtain ⟨⟨h1, h2⟩, h3, h4⟩ := h
  refine ⟨⟨fun j r hr => ⟨(h1 j r hr).1, (h1 j r hr).2.1, (h1 j r hr).2.2.below (h4 j r hr) hb⟩, ?_⟩, h3, h4⟩
  rcases h2 with e | ⟨b, o, e, hc⟩
  · exact .inl e
  · refine .inr ⟨b, o, e, fun j r hr => (hb.cell (p := ⟨b, o + j, none⟩) ?_).trans (hc j r hr)⟩
    exact h3 ⟨b, o, none⟩ e (by have := (List.getElem?_eq_some_iff.1 hr).1; omega)
theorem Mt.b {w : World} {p : Option Addr} {R : List Row} (h : Mt w p R) : MtB w.heap.size w p R := ⟨h, h.lt, fun j r hr => (h.1 j r hr).2.2.lt⟩

set_option maxHeartbeats 1000000 in
theorem flines_in (n : Nat) (p : Option Addr) (len cap : Nat) (w : World) :
    CallsIn Fence.wide n Try.prog 59 #[.slice p len cap] w fun e w' => e = .returned (.func (.func 66) #[] #[.pointer (some ⟨w.heap.size, 0, none⟩)]) ∧ w' = w.alloc (.cells #[.slice p len cap] 41) := by
  refine callsIn_of_wp Try.func59 rfl trivial ?_ rfl
  simp only [Try.ntmps59, List.size_toArray, List.length_cons, List.length_nil, Nat.reduceAdd, Nat.reduceSub, Array.replicate_succ, Array.replicate_zero, List.push_toArray, List.append_toArray, List.nil_append, List.cons_append]
  gi_wp2
  go_ret
  exact ⟨rfl, rfl⟩

set_option maxRecDepth 100000 in
set_option maxHeartbeats 2000000 in
theorem fl1_in (n : Nat) (hn : 1 ≤ n) (l Bb n₀ cap : Nat) (p : Option Addr) (R : List Row) (hl : R.length ≤ 1099511627776)
    (J Jx : List (Pc R (tAt R) (fun i => 0 < (tAt R i).length)) → World → Prop) (W : World) (hn₀ : n₀ ≤ W.heap.size) (hJ : AbidesFrom W.heap.size J)
    (hY : ∀ pre x W1, J pre W1 → pre.length < R.length → YieldAt Fence.wide (n - 1) Try.prog l (encP x) W1 fun e W' =>
      (e = .returned (.bool true) ∧ J (pre ++ [x]) W' ∧ Kp n₀ Bb W1 W') ∨ (e = .returned (.bool false) ∧ Jx (pre ++ [x]) W'))
    (hBb : W.cell? ⟨Bb, 0, none⟩ = some (.slice p R.length cap)) (hM : MtB n₀ W p R) (h0 : J [] W) :
    CallsIn Fence.wide n Try.prog 66 #[.func (.yield l) #[] #[], .pointer (some ⟨Bb, 0, none⟩)] W fun e W' => (∃ v, e = .returned v) ∧
      ((∃ ys : List (Pc R (tAt R) (fun i => 0 < (tAt R i).length)), places ys = told (tellW R) R.length ∧ J ys W') ∨ (∃ pre : List (Pc R (tAt R) (fun i => 0 < (tAt R i).length)), True ∧ Jx pre W')) := by
  refine callsIn_of_wp Try.func66 rfl trivial ?_ rfl
  simp only [Try.ntmps66, List.size_toArray, List.length_cons, List.length_nil, Nat.reduceAdd, Nat.reduceSub, Array.replicate_succ, Array.replicate_zero, List.push_toArray, List.append_toArray, List.nil_append, List.cons_append]
  gi_wp2
  gi_loopw [7] (fun iv wr => ∃ (k : Nat) (pre : List (Pc R (tAt R) (fun i => 0 < (tAt R i).length))), k ≤ R.length ∧ iv = .int .i64 k ∧ Hid (places pre = told (tellW R) k) ∧ J pre wr ∧ Kp n₀ Bb W wr)
    (fun iv _ => R.length - (intOf iv).toNat)
  case atStart => exact ⟨0, [], Nat.zero_le _, rfl, rfl, h0, Kp.refl _ _ _⟩
  case round =>
    obtain ⟨k, pre, hk, rfl, Hs, hJs, hK⟩ := hrel
    have cB := (hK.cellB 0).trans hBb
    by_cases hlt : k < R.length
    · have hli : (k : Int) < R.length := by omega
      obtain ⟨r, hr⟩ : ∃ r, R[k]? = some r := ⟨_, List.getElem?_eq_getElem hlt⟩
      have hMr := (hM.on hK.1).1
      have hpl : pre.length < R.length := by
        have h1 := told_len (tellW R) k
        have h2 := congrArg List.length Hs.out
        simp [places] at h2
        omega
      have YY := fun y => hY pre y wr hJs hpl
      obtain ⟨b0, o0, rfl, hcell⟩ := hMr.at (by omega)
      have c0 := hcell k r hr
      have hI := (hMr.1 k r hr).2.2
      have HR : Hid (R[k]? = some r) := hr
      have HU : Hid (tAt R k = r.t) := tAt_at hr
      have hsb := Sub.refl hI
      clear hY hJ hMr hcell hr hM hI
      obtain ⟨q, t, c⟩ := r
      dsimp only at c0 hsb HU
      by_cases hu0 : 0 < t.length
      · have hu0' : (0 : Int) < t.length := by omega
        have HS : Hid (told (tellW R) (k + 1) = told (tellW R) k ++ [k]) := told_yes (by unfold tellW; rw [HU.out]; simp [hu0])
        obtain ⟨y, hy1⟩ : ∃ y : Pc R (tAt R) (fun i => 0 < (tAt R i).length), y.1 = (k, .slice q t.length c) := ⟨⟨(k, .slice q t.length c), (by show 0 < (tAt R k).length; rw [HU.out]; exact hu0), _, q, c, HR.out, by rw [HU.out], by rw [HU.out]; exact hsb⟩, rfl⟩
        have Y := YY y
        simp only [encP, hy1] at Y
        obtain ⟨fn, tmps, assign, body, hy, hR⟩ := Y
        clear YY
        gi_wp2
        refine hR.mono ?_
        rintro e3 W3 (⟨rfl, hJ3, hk3⟩ | ⟨rfl, hJx3⟩)
        · clear hR hy
          gi_wp2
          go_roundw
          case rel => exact ⟨k + 1, pre ++ [y], by omega, by go_num, (by show _ = _; rw [places_snoc, HS.out, Hs.out, hy1]), hJ3, hK.trans hk3⟩
          case measure => simp [intOf]; omega
        · gi_wp2
          refine bodyPost_ret (results_none rfl _ _ _) rfl ?_
          exact ⟨⟨_, rfl⟩, .inr ⟨_, trivial, hJx3⟩⟩
      · obtain rfl : t = [] := List.eq_nil_of_length_eq_zero (by omega)
        have HS : Hid (places pre = told (tellW R) (k + 1)) := by
          show _ = _
          rw [told_no (by unfold tellW; rw [HU.out]; simp)]; exact Hs.out
        clear YY
        gi_wp2
        refine ⟨fun _ h => (by cases h), ?_⟩
        gi_wp2
        go_roundw
        case rel => exact ⟨k + 1, pre, by omega, by go_num, HS, hJs, hK⟩
        case measure => simp [intOf]; omega
    · obtain rfl : k = R.length := by omega
      clear hY hJ
      gi_wp2
      go_end0
      exact ⟨⟨_, rfl⟩, .inl ⟨pre, Hs.out, hJs⟩⟩

theorem fl_stops (n : Nat) (hn : 1 ≤ n) (Bb n₀ cap : Nat) (p : Option Addr) (R : List Row) (hl : R.length ≤ 1099511627776) (w : World) (hBb : Bb < w.heap.size) (hn₀ : n₀ ≤ w.heap.size)
    (cB : w.cell? ⟨Bb, 0, none⟩ = some (.slice p R.length cap)) (hM : MtB n₀ w p R) :
    SeqStopsK Fence.wide n Try.prog 66 #[.pointer (some ⟨Bb, 0, none⟩)] (encP (R := R) (g := (tAt R)) (E := (fun i => 0 < (tAt R i).length))) (Kp n₀ Bb) (fun ys => places ys = told (tellW R) R.length) (fun _ => True) R.length w := fun l J Jx W hW hJ _ hY h0 =>
  fl1_in n hn l Bb n₀ cap p R hl J Jx W (Nat.le_trans hn₀ hW.size) hJ hY ((hW.cell (p := ⟨Bb, 0, none⟩) hBb).trans cB) (hM.on (hW.mono hn₀)) h0
end Go.Proofs.Ytgmcomfeggidnaa
