/- The text of gathered pieces, and its bytes as a string. -/
import Derived.Test.YtgmcomfeggidnaaMat
import Derived.Test.YtgmcomfeggidnaaByt
import Derived.Laws.IdiomStrings
import Derived.Lib.BufferRead
set_option linter.unusedVariables false
set_option linter.unusedSimpArgs false
namespace Go.Proofs.Ytgmcomfeggidnaa
open Go.RowKit Go.Shelf

/-- Which folding. -/
def fp (f : Bool) : List Int → Bool := if f then spacedP else alwaysP

set_option maxRecDepth 100000 in
set_option maxHeartbeats 1000000 in
theorem text_any (f : Bool) (chomp more : Int) (p : Option Addr) (R : List Row) (cap : Nat) (w : World) (hS : Sized R) (hM : Mt w p R) :
    Calls Try.prog 23 #[.agg #[.bool f, .int .i64 chomp, .int .i64 more], .slice p R.length cap] w fun e w' => ∃ v, e = .returned v ∧ Owns w' w.heap.size v (wholeT (fp f) R chomp) ∧ Below w.heap.size w w' := by
  have hB : Below w.heap.size w (w.alloc (.cells #[.bool f, .int .i64 chomp, .int .i64 more] 25)) := (Below.refl _ w).alloc (Nat.le_refl _) _
  cases f with
  | true =>
    have FB := Block_any p R cap chomp _ hS (hM.on hB)
    unfold fp
    simp only [if_true]
    generalize wholeT spacedP R chomp = T at FB ⊢
    go_enter Try.func23, Try.ntmps23
    go_wp2_with (first | (go_at_call 40; refine FB.mono ?_; rintro e w2 ⟨v, rfl, ho, hb⟩))
    go_ret
    exact ⟨_, rfl, ownsRow_mono ho (by simp), hB.trans (hb.mono (by simp))⟩
  | false =>
    have FB := Literal_any p R cap chomp _ hS (hM.on hB)
    unfold fp
    simp only [Bool.false_eq_true, if_false]
    generalize wholeT alwaysP R chomp = T at FB ⊢
    go_enter Try.func23, Try.ntmps23
    go_wp2_with (first | (go_at_call 41; refine FB.mono ?_; rintro e w2 ⟨v, rfl, ho, hb⟩))
    go_ret
    exact ⟨_, rfl, ownsRow_mono ho (by simp), hB.trans (hb.mono (by simp))⟩

theorem whole_len (P : List Int → Bool) {R : List Row} (h1 : R.length ≤ 100) (h2 : ∀ i, (tAt R i).length ≤ 2000) (c : Int) : (wholeT P R c).length ≤ 300000 := by
  have h3 := joinT_len (sepW P (tAt R)) (tAt R) 2000 R.length h2 (fun b i hb hi => sepW_len P _ _ b i hb hi) (told (tellW R) R.length) (fun i hi => by
    unfold told at hi
    have := List.mem_range.1 (List.mem_filter.1 hi).1
    omega)
  have h4 := told_len (tellW R) R.length
  have h5 : (told (tellW R) R.length).length * (2000 + R.length + 1) ≤ 100 * 2101 := Nat.mul_le_mul (by omega) (by omega)
  have h6 := wJ_lt P R R.length
  unfold wJ at h6
  have h7 := endN_le (decide (0 ≤ (joinT (sepW P (tAt R)) (tAt R) (told (tellW R) R.length)).2)) ((R.length : Int) - (joinT (sepW P (tAt R)) (tAt R) (told (tellW R) R.length)).2 - 1) c (by omega)
  unfold wholeT reps
  rw [List.length_append, List.length_replicate]
  omega

/-- What wholeT looks at: the texts alone. -/
theorem whole_congr (P : List Int → Bool) {R R' : List Row} (h : R.map (·.t) = R'.map (·.t)) (c : Int) : wholeT P R c = wholeT P R' c := by
  have hl : R.length = R'.length := by have := congrArg List.length h; simpa using this
  have ht : tAt R = tAt R' := by
    funext i
    have := congrArg (fun l => l[i]?) h
    simp only [List.getElem?_map] at this
    unfold tAt
    rw [this]
  have hw : tellW R = tellW R' := by funext i; unfold tellW; rw [ht]
  unfold wholeT
  rw [hl, ht, hw]

/-- Bytes of the call's own. -/
abbrev OwnB (w : World) (base : Nat) (v : Value) (t : List Int) : Prop := w.ownsRow base 5 1 v t.length (t.map (.int .u8))
def strB (L : List Int) : ByteArray := ⟨(L.map fun x => UInt8.ofNat x.toNat).toArray⟩

theorem own_string {B : Nat} {w : World} {v : Value} {L : List Int} (h : OwnB w B v L) (hL : ∀ x ∈ L, 0 ≤ x ∧ x < 256) :
    (convert 45 9 v).run Try.prog w = .ok (.string (strB L)) w := by
  obtain ⟨h0, ⟨rfl, h1⟩ | ⟨g, cap, cur, rfl, -⟩⟩ := id h
  · have : L = [] := List.eq_nil_of_length_eq_zero (by omega)
    subst this
    exact Lib.run_convert_nil_bytes w _ _ _ 0 Try.underlying45 Try.underlying5 Try.underlying9
  · have := run_convert_bytes_back (P := Try.prog) w 45 9 5 ⟨g, 0, none⟩ cap (L.map fun x => UInt8.ofNat x.toNat) Try.underlying45 Try.underlying5 Try.underlying9 (fun j hj => by
      have hj' : j < L.length := by simpa using hj
      have := h.cells (g := g) rfl j (.int .u8 L[j]) (by simp [hj'])
      rw [this]
      have := hL _ (List.getElem_mem hj')
      simp
      omega)
    rw [List.length_map] at this
    exact this
end Go.Proofs.Ytgmcomfeggidnaa
