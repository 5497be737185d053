/- The document's own Float, whole. -/
import Derived.Test.YtpffegkckejpiaaRFltB
import Derived.Test.YtpffegkckejpiaaRefP
set_option linter.unusedVariables false
set_option linter.unusedSimpArgs false
set_option maxRecDepth 100000
namespace Go.Proofs.Ytpffegkckejpiaa
open Go.RowKit

set_option maxRecDepth 100000 in
set_option maxHeartbeats 400000 in
theorem rFloat_inf (s : ByteArray) (w : World) (h : isInf (restB s) = true) :
    Calls Try.prog 27 #[.string s] w fun e w' => e = .returned (.tuple #[.agg #[.bool (negB s), .string ⟨#[]⟩, .int .i64 0, .int .i64 1], .bool true]) ∧ Below w.heap.size w w' := by
  have S := fun w => rsigned_any s w
  have hc := inf_cases h
  clear h
  generalize restB s = t at S hc
  generalize negB s = ng at S ⊢
  rcases hc with h1 | ⟨h1, h2⟩ | ⟨h1, h2, h3⟩
  all_goals
    go_enter Try.func27, Try.ntmps27
    go_wp2_with fail
    refine (S _).mono ?_
    rintro e w1 ⟨rfl, hB1⟩
    rw [size1] at hB1
    obtain ⟨r0, r1, r2, r3, f0, f1, f2, f3⟩ := res_cells hB1
    have hw := zC_below hB1
    go_wp2
    exact bodyPost_ret (v := .tuple #[.agg #[.bool ng, .string ⟨#[]⟩, .int .i64 0, .int .i64 1], .bool true]) (put4_results2 Try.results27 rfl rfl r0 r1 r2 r3 _ _ _ _) rfl ⟨rfl, put4_below hw (Nat.le_refl _) _ _ _ _⟩

set_option maxRecDepth 100000 in
set_option maxHeartbeats 400000 in
theorem rFloat_nan (s : ByteArray) (w : World) (h0 : isInf (restB s) = false) (h : isNan s = true) :
    Calls Try.prog 27 #[.string s] w fun e w' => e = .returned (.tuple #[.agg #[.bool false, .string ⟨#[]⟩, .int .i64 0, .int .i64 2], .bool true]) ∧ Below w.heap.size w w' := by
  have S := fun w => rsigned_any s w
  obtain ⟨i1, i2, i3⟩ := inf_none h0
  have hc := nan_cases h
  clear h h0
  generalize restB s = t at S i1 i2 i3
  generalize negB s = ng at S ⊢
  rcases hc with h1 | ⟨h1, h2⟩ | ⟨h1, h2, h3⟩
  all_goals
    go_enter Try.func27, Try.ntmps27
    go_wp2_with fail
    refine (S _).mono ?_
    rintro e w1 ⟨rfl, hB1⟩
    rw [size1] at hB1
    obtain ⟨r0, r1, r2, r3, f0, f1, f2, f3⟩ := res_cells hB1
    have hw := zC_below hB1
    go_wp2
    exact bodyPost_ret (v := .tuple #[.agg #[.bool false, .string ⟨#[]⟩, .int .i64 0, .int .i64 2], .bool true]) (put4_results2 Try.results27 rfl rfl r0 r1 r2 r3 _ _ _ _) rfl ⟨rfl, put4_below hw (Nat.le_refl _) _ _ _ _⟩

theorem rFloat_any (s : ByteArray) (w : World) (hs : s.size ≤ 100000) :
    Calls Try.prog 27 #[.string s] w fun e w' => e = .returned (floatV s (kE s)) ∧ Below w.heap.size w w' := by
  unfold floatV
  cases h0 : isInf (restB s)
  · cases h1 : isNan s
    · obtain ⟨i1, i2, i3⟩ := inf_none h0
      obtain ⟨n1, n2, n3⟩ := nan_none h1
      exact rFloat_t s (restB s) (negB s) w (fun w => rsigned_any s w) (Nat.le_trans (rest_size s) hs) i1 i2 i3 n1 n2 n3
    · exact rFloat_nan s w h0 h1
  · exact rFloat_inf s w h0

theorem split_dot {l : List UInt8} (h : (46 : UInt8) ∈ l) : ∃ a b, l = a ++ 46 :: b ∧ ∀ x ∈ a, x ≠ 46 := by
  induction l with
  | nil => cases h
  | cons c t ih =>
    by_cases hc : c = 46
    · subst hc; exact ⟨[], t, rfl, fun x hx => by cases hx⟩
    · rcases List.mem_cons.1 h with e | e
      · exact absurd e.symm hc
      · obtain ⟨a, b, rfl, hab⟩ := ih e
        refine ⟨c :: a, b, rfl, fun x hx => ?_⟩
        rcases List.mem_cons.1 hx with rfl | hx
        · exact hc
        · exact hab x hx
theorem fltA_bad {a : ByteArray} {c : UInt8} (x : Int) (hc : c ∈ a.data.toList) (hD : isD c = false) (h46 : c ≠ 46) : fltA a x = none := by
  by_cases hd : (46 : UInt8) ∈ a.data.toList
  · obtain ⟨l, r, e, hl⟩ := split_dot hd
    rw [fltA_dot x e hl]
    rw [e, List.mem_append, List.mem_cons] at hc
    refine numF_bad x (c := c) ?_ hD
    rw [List.mem_append]
    rcases hc with hc | hc | hc
    · exact .inl hc
    · exact absurd hc h46
    · exact .inr hc
  · rw [fltA_no x (fun y hy => by rintro rfl; exact hd hy)]
    exact numF_bad x (c := c) (by simpa using hc) hD
theorem high_D {c : UInt8} (h : 128 ≤ c.toNat) : isD c = false ∧ c ≠ 46 ∧ isE c = false ∧ c ≠ 43 ∧ c ≠ 45 := by
  refine ⟨?_, ?_, ?_, ?_, ?_⟩
  · cases e : isD c
    · rfl
    · have := isD_iff.1 e; omega
  · rintro rfl; revert h; decide
  · cases e : isE c
    · rfl
    · unfold isE eE at e
      have : c = 101 ∨ c = 69 := by simpa using e
      rcases this with rfl | rfl <;> (revert h; decide)
  · rintro rfl; revert h; decide
  · rintro rfl; revert h; decide
theorem exp_bad {u : ByteArray} {c : UInt8} (hc : c ∈ u.data.toList) (h : 128 ≤ c.toNat) : expP u = none := by
  obtain ⟨hD, -, -, h43, h45⟩ := high_D h
  have hm : c ∈ (restB u).data.toList := by
    unfold restB
    split
    · rename_i hs
      cases e : u.data.toList with
      | nil => rw [e] at hc; cases hc
      | cons a t =>
        rw [rest_list e]
        rw [e] at hc
        rcases List.mem_cons.1 hc with rfl | hc
        · unfold sgB at hs
          rw [e] at hs
          simp [h43, h45] at hs
        · exact hc
    · exact hc
  have ha : (restB u).data.toList.all isD = false := by
    cases e : (restB u).data.toList.all isD
    · rfl
    · rw [List.all_eq_true.1 e c hm] at hD; cases hD
  unfold expP
  split
  · rfl
  · rw [ha]; rfl
/-- Where e may be told to stand. -/
def QE (t : ByteArray) (K : Int) : Prop := K = -1 ∨ ∃ i : Nat, K = i ∧ ∃ h : i < t.size, isE t[i] = true
theorem high_none {t : ByteArray} {c : UInt8} {K : Int} (hc : c ∈ t.data.toList) (h : 128 ≤ c.toNat) (hK : QE t K) : fltK t K = none := by
  obtain ⟨hD, h46, hE, -, -⟩ := high_D h
  unfold fltK aheadK
  rcases hK with rfl | ⟨i, rfl, hi, he⟩
  · rw [if_pos (by decide)]
    exact fltA_bad 0 hc hD h46
  · rw [if_neg (by omega), Int.toNat_natCast]
    have hl : t.data.toList = t.data.toList.take i ++ t[i] :: t.data.toList.drop (i + 1) := by
      rw [← byte_drop t i hi, List.take_append_drop]
    have h1 : (t.extract 0 i).data.toList = t.data.toList.take i := ext_take t i
    have h2 : (t.extract (i + 1) t.size).data.toList = t.data.toList.drop (i + 1) := by rw [Lib.extract_data, List.take_of_length_le (by simp)]
    rw [hl, List.mem_append, List.mem_cons] at hc
    rcases hc with hc | hc | hc
    · cases e : expP (t.extract (i + 1) t.size) with
      | none => rfl
      | some x => exact fltA_bad x (by rw [h1]; exact hc) hD h46
    · rw [hc, he] at hE; cases hE
    · rw [exp_bad (c := c) (by rw [h2]; exact hc) h]; rfl
theorem kT_QE (t : ByteArray) : QE t (kT t) := by
  unfold kT
  by_cases h : ∃ x ∈ t.data.toList, isE x = true
  · have hs : t.data.toList = t.data.toList.takeWhile (fun x => !isE x) ++ t.data.toList.dropWhile (fun x => !isE x) := (List.takeWhile_append_dropWhile).symm
    cases hd : t.data.toList.dropWhile (fun x => !isE x) with
    | nil =>
      rw [hd, List.append_nil] at hs
      obtain ⟨x, hx, hxe⟩ := h
      rw [hs] at hx
      have := mem_tw hx
      rw [hxe] at this
      cases this
    | cons e u =>
      rw [hd] at hs
      have he : isE e = true := by
        have := List.head_dropWhile_not (fun x => !isE x) (l := t.data.toList) (by rw [hd]; simp)
        simpa [hd] using this
      have hno : ∀ x ∈ t.data.toList.takeWhile (fun x => !isE x), isE x = false := by
        intro x hx
        have := mem_tw hx
        simpa using this
      obtain ⟨h1, h2⟩ := byte_mid hs
      refine .inr ⟨_, ?_, h1, by rw [h2]; exact he⟩
      have := idxE_app (r := u) hno he
      rw [← hs] at this
      exact this
  · left
    exact idxE_none fun x hx => by
      cases e : isE x
      · rfl
      · exact absurd ⟨x, hx, e⟩ h
theorem asc_no {s : ByteArray} (h : asc s = false) : ∃ c ∈ (restB s).data.toList, 128 ≤ c.toNat := by
  unfold asc at h
  have h1 : ∃ c ∈ s.data.toList, ¬ c.toNat < 128 := by
    have := List.all_eq_false.1 h
    obtain ⟨c, hc, hd⟩ := this
    exact ⟨c, hc, by simpa using hd⟩
  obtain ⟨c, hc, hd⟩ := h1
  refine ⟨c, ?_, by omega⟩
  obtain ⟨-, -, -, h43, h45⟩ := high_D (c := c) (by omega)
  unfold restB
  split
  · rename_i hs
    cases e : s.data.toList with
    | nil => rw [e] at hc; cases hc
    | cons a t =>
      rw [rest_list e]
      rw [e] at hc
      rcases List.mem_cons.1 hc with rfl | hc
      · unfold sgB at hs
        rw [e] at hs
        simp [h43, h45] at hs
      · exact hc
  · exact hc
theorem floatV_high {s : ByteArray} (h : asc s = false) {K : Int} (hK : QE (restB s) K) : floatV s K = floatV s (kE s) := by
  obtain ⟨c, hc, hh⟩ := asc_no h
  unfold floatV
  rw [high_none hc hh hK, high_none hc hh (show QE (restB s) (kE s) from kT_QE _)]
end Go.Proofs.Ytpffegkckejpiaa
