/- A header: what its signs say; take, closes and Head, as they run. -/
import Derived.Test.YtgmcomfeggidnaaBare
import Derived.Test.YtgmcomfeggidnaaRefA
import Derived.Laws.OwnMore
set_option linter.unusedVariables false
set_option linter.unusedSimpArgs false
namespace Go.Proofs.Ytgmcomfeggidnaa
open Go.RowKit

/-- What one sign does to what was told; none: it is no such sign. -/
def takeP (ch i c : Int) : Option (Int × Int) :=
  if i = 0 ∧ 49 ≤ c ∧ c ≤ 57 then some (ch, c - 48) else if ch = 0 ∧ c = 45 then some (1, i) else if ch = 0 ∧ c = 43 then some (2, i) else none

/-- A header in a block of its own. -/
def Hb (w : World) (b : Nat) (t : TypeId) (f : Bool) (ch i : Int) : Prop := w.heap[b]? = some (.cells #[.bool f, .int .i64 ch, .int .i64 i] t (0, 0))

theorem Hb.cells {w : World} {b : Nat} {t : TypeId} {f : Bool} {ch i : Int} (h : Hb w b t f ch i) : w.cell? ⟨b, 0, none⟩ = some (.bool f) ∧ w.cell? ⟨b, 1, none⟩ = some (.int .i64 ch) ∧ w.cell? ⟨b, 2, none⟩ = some (.int .i64 i) := by
  have h1 : ∀ o, w.cell? ⟨b, o, none⟩ = (#[.bool f, .int .i64 ch, .int .i64 i] : Array Value)[o]? := fun o => by
    show (match w.heap[b]? with | some (.cells c _ _) => c[o]? | _ => none) = _
    rw [show w.heap[b]? = _ from h]
  exact ⟨h1 0, h1 1, h1 2⟩
theorem Hb.frozen {w : World} {b : Nat} {t : TypeId} {f : Bool} {ch i : Int} (h : Hb w b t f ch i) (o : Nat) : w.frozen? ⟨b, o, none⟩ = false := frozen_of_row w b o _ t h
theorem Hb.lt {w : World} {b : Nat} {t : TypeId} {f : Bool} {ch i : Int} (h : Hb w b t f ch i) : b < w.heap.size := (Array.getElem?_eq_some_iff.1 (show w.heap[b]? = _ from h)).1
theorem Hb.set1 {w : World} {b : Nat} {t : TypeId} {f : Bool} {ch i : Int} (h : Hb w b t f ch i) (x : Int) : Hb (w.setCell ⟨b, 1, none⟩ (.int .i64 x)) b t f x i := heap_setCell_same w b 1 _ t _ h
theorem Hb.set2 {w : World} {b : Nat} {t : TypeId} {f : Bool} {ch i : Int} (h : Hb w b t f ch i) (x : Int) : Hb (w.setCell ⟨b, 2, none⟩ (.int .i64 x)) b t f ch x := heap_setCell_same w b 2 _ t _ h
theorem grown_set (w : World) (b o : Nat) (v : Value) : w.grownBy (w.setCell ⟨b, o, none⟩ v) (some b) := ⟨rfl, rfl, rfl, by simp, fun k _ hk => heap_setCell_other w ⟨b, o, none⟩ k v (fun e => hk (by simp [e]))⟩
theorem grown_refl (w : World) (r : Option Nat) : w.grownBy w r := ⟨rfl, rfl, rfl, Nat.le_refl _, fun _ _ _ => rfl⟩

set_option maxRecDepth 100000 in
set_option maxHeartbeats 1000000 in
theorem take_yes (b : Nat) (f : Bool) (ch i c ch' i' : Int) (w : World) (h : Hb w b 25 f ch i) (ht : takeP ch i c = some (ch', i')) :
    Calls Try.prog 16 #[.pointer (some ⟨b, 0, none⟩), .int .i64 c] w fun e w' => e = .returned (.bool true) ∧ Hb w' b 25 f ch' i' ∧ w.grownBy w' (some b) := by
  obtain ⟨c0, c1, c2⟩ := h.cells
  have f1 := h.frozen 1
  have f2 := h.frozen 2
  unfold takeP at ht
  by_cases h1 : i = 0 ∧ 49 ≤ c ∧ c ≤ 57
  · rw [if_pos h1] at ht
    cases ht
    obtain ⟨rfl, h2, h3⟩ := h1
    go_enter Try.func16, Try.ntmps16
    go_wp2
    go_ret
    exact ⟨rfl, h.set2 _, grown_set _ _ _ _⟩
  · rw [if_neg h1] at ht
    have hd : (decide (i = 0) && (decide (49 ≤ c) && decide (c ≤ 57))) = false := by
      rw [Bool.eq_false_iff]; simpa using h1
    by_cases h4 : ch = 0 ∧ c = 45
    · rw [if_pos h4] at ht
      cases ht
      obtain ⟨rfl, rfl⟩ := h4
      clear h1 hd
      go_enter Try.func16, Try.ntmps16
      go_wp2
      all_goals
        go_ret
        exact ⟨rfl, h.set1 _, grown_set _ _ _ _⟩
    · rw [if_neg h4] at ht
      by_cases h5 : ch = 0 ∧ c = 43
      · rw [if_pos h5] at ht
        cases ht
        obtain ⟨rfl, rfl⟩ := h5
        clear h1 hd h4
        go_enter Try.func16, Try.ntmps16
        go_wp2
        all_goals
          go_ret
          exact ⟨rfl, h.set1 _, grown_set _ _ _ _⟩
      · rw [if_neg h5] at ht
        cases ht

set_option maxRecDepth 100000 in
set_option maxHeartbeats 1000000 in
theorem take_no (b : Nat) (f : Bool) (ch i c : Int) (w : World) (h : Hb w b 25 f ch i) (ht : takeP ch i c = none) :
    Calls Try.prog 16 #[.pointer (some ⟨b, 0, none⟩), .int .i64 c] w fun e w' => e = .returned (.bool false) ∧ w' = w := by
  obtain ⟨c0, c1, c2⟩ := h.cells
  have HT : Hid (takeP ch i c = none) := ht
  clear ht
  go_enter Try.func16, Try.ntmps16
  go_wp2
  all_goals first
    | (go_ret; exact ⟨rfl, rfl⟩)
    | (exfalso; have ht := HT.out; unfold takeP at ht; simp_all; done)

def closesP (t : List Int) : Bool := decide (t.length = 0) || (blankP (iAt t 0) && bareP t)

set_option maxRecDepth 100000 in
set_option maxHeartbeats 1000000 in
theorem closes_any (p : Option Addr) (t : List Int) (cap : Nat) (w : World) (hl : t.length ≤ cap) (hm : (cap : Int) ≤ 9223372036854775807) (h : Is w p t) :
    Calls Try.prog 17 #[.slice p t.length cap] w fun e w' => e = .returned (.bool (closesP t)) ∧ Below w.heap.size w w' := by
  have BA := bare_any 0 p t cap w hl hm h
  unfold closesP
  by_cases h0 : t.length = 0
  · rw [decide_eq_true h0, Bool.true_or]
    clear BA
    go_enter Try.func17, Try.ntmps17
    go_wp2
    go_ret
    exact ⟨rfl, Below.refl _ _⟩
  · rw [decide_eq_false h0, Bool.false_or]
    obtain ⟨b, o, rfl, hc⟩ := h.at (by omega)
    have c0 := hc 0 (by omega)
    rw [Nat.add_zero] at c0
    have hz : (0 : Int) < t.length := by omega
    have h0' : ((t.length : Int) == 0) = false := by simpa using (by omega : ¬ (t.length : Int) = 0)
    have BL := blank_any (iAt t 0)
    cases hb : blankP (iAt t 0) with
    | false =>
      rw [hb] at BL
      generalize iAt t 0 = x at c0 BL
      clear hc h BA hb h0
      go_enter Try.func17, Try.ntmps17
      go_wp2_with (first | (go_at_call 30; refine (BL _).mono ?_; rintro e w' ⟨rfl, rfl⟩))
      go_ret
      exact ⟨rfl, Below.refl _ _⟩
    | true =>
      rw [hb] at BL
      generalize iAt t 0 = x at c0 BL
      generalize bareP t = r at BA
      clear hc h hb h0
      go_enter Try.func17, Try.ntmps17
      go_wp2_with (first | (go_at_call 30; refine (BL _).mono ?_; rintro e w ⟨rfl, rfl⟩) | (go_at_call 31; refine BA.mono ?_; rintro e w2 ⟨rfl, hb2⟩))
      go_ret
      exact ⟨rfl, hb2⟩

/-- The signs of a header: what they say, and how many they are. -/
def scanP : Int → Int → List Int → Int × Int × Nat
  | ch, i, [] => (ch, i, 0)
  | ch, i, c :: r => match takeP ch i c with
    | some (ch', i') => ((scanP ch' i' r).1, (scanP ch' i' r).2.1, (scanP ch' i' r).2.2 + 1)
    | none => (ch, i, 0)
theorem scan_yes {ch i ch' i' : Int} {l : List Int} {k : Nat} (hk : k < l.length) (h : takeP ch i (iAt l k) = some (ch', i')) : scanP ch i (l.drop k) = ((scanP ch' i' (l.drop (k + 1))).1, (scanP ch' i' (l.drop (k + 1))).2.1, (scanP ch' i' (l.drop (k + 1))).2.2 + 1) := by
  have e : l.drop k = iAt l k :: l.drop (k + 1) := by
    rw [List.drop_eq_getElem_cons hk]; simp [iAt, hk]
  rw [e, scanP, h]
theorem scan_no {ch i : Int} {l : List Int} {k : Nat} (hk : k < l.length) (h : takeP ch i (iAt l k) = none) : scanP ch i (l.drop k) = (ch, i, 0) := by
  have e : l.drop k = iAt l k :: l.drop (k + 1) := by
    rw [List.drop_eq_getElem_cons hk]; simp [iAt, hk]
  rw [e, scanP, h]
theorem scan_end {ch i : Int} {l : List Int} {k : Nat} (hk : l.length ≤ k) : scanP ch i (l.drop k) = (ch, i, 0) := by
  rw [List.drop_eq_nil_of_le hk, scanP]

def headP (l : List Int) : Option (Bool × Int × Int) :=
  if l.length = 0 ∨ (iAt l 0 ≠ 124 ∧ iAt l 0 ≠ 62) then none else
  if closesP (l.drop (1 + (scanP 0 0 (l.drop 1)).2.2)) = true then some (decide (iAt l 0 = 62), (scanP 0 0 (l.drop 1)).1, (scanP 0 0 (l.drop 1)).2.1) else none
def headV (n : Nat) : Option (Bool × Int × Int) → Value
  | some (f, ch, i) => .tuple #[.agg #[.bool f, .int .i64 ch, .int .i64 i], .int .i64 n, .int .i64 0]
  | none => .tuple #[.agg #[.bool false, .int .i64 0, .int .i64 0], .int .i64 0, .int .i64 2]

theorem Hb.new (w : World) (t : TypeId) (f : Bool) (ch i : Int) : Hb (w.alloc (.cells #[.bool f, .int .i64 ch, .int .i64 i] t)) w.heap.size t f ch i := World.alloc_heap_new w _
theorem Hb.on {w w' : World} {b : Nat} {t : TypeId} {f : Bool} {ch i : Int} (h : Hb w b t f ch i) (hb : Below w.heap.size w w') : Hb w' b t f ch i := (hb.block b h.lt).trans h
theorem Hb.grown {w w' : World} {b : Nat} {t : TypeId} {f : Bool} {ch i : Int} {r : Option Nat} (h : Hb w b t f ch i) (hg : w.grownBy w' r) (hr : some b ≠ r) : Hb w' b t f ch i := (hg.block b h.lt hr).trans h

set_option maxRecDepth 100000 in
set_option maxHeartbeats 2000000 in
theorem Head_first (p : Option Addr) (l : List Int) (cap : Nat) (w : World) (hl : l.length ≤ 1000) (h : Is w p l) (h0 : l.length = 0 ∨ (iAt l 0 ≠ 124 ∧ iAt l 0 ≠ 62)) :
    Calls Try.prog 8 #[.slice p l.length cap] w fun e w' => e = .returned (headV l.length none) ∧ Below w.heap.size w w' := by
  by_cases hz : l.length = 0
  · have hz' : (l.length : Int) = 0 := by omega
    clear h h0 hl
    go_enter Try.func8, Try.ntmps8
    go_wp2
    exact bodyPost_ret (v := headV l.length none) (by simp [results, Try.results8, go_sem, headV]) rfl ⟨rfl, (Below.refl _ w).alloc (Nat.le_refl _) _⟩
  · obtain ⟨b, o, rfl, hc⟩ := h.at (by omega)
    have c0 := hc 0 (by omega)
    rw [Nat.add_zero] at c0
    have hz' : (0 : Int) < l.length := by omega
    have hz2 : ((l.length : Int) == 0) = false := by simpa using (by omega : ¬ (l.length : Int) = 0)
    obtain ⟨h1, h2⟩ := h0.resolve_left hz
    have hbl := World.block_lt_of_cell? w _ c0
    dsimp only at hbl
    generalize iAt l 0 = x at c0 h1 h2
    have h1' : (x != 124) = true := by simpa using h1
    have h2' : (x != 62) = true := by simpa using h2
    clear h hc h1 h2 hz
    go_enter Try.func8, Try.ntmps8
    go_wp2
    exact bodyPost_ret (v := headV l.length none) (by simp [results, Try.results8, go_sem, headV]) rfl ⟨rfl, (Below.refl _ w).alloc (Nat.le_refl _) _⟩
end Go.Proofs.Ytgmcomfeggidnaa
