/- LinesTell's walk: for every indent and every text. -/
import Derived.Test.YtcijjbnkdjmklaaAlive
import Derived.Test.YtcijjbnkdjmklaaBare
import Derived.Deep.Quiet
set_option linter.unusedVariables false
set_option linter.unusedSimpArgs false
namespace Go.Proofs.Ytcijjbnkdjmklaa
open Go.RowKit Go.Shelf

theorem run_zero {p : Int → Bool} {l : List Int} (h : p (iAt l 0) = false) : run p l = 0 := by
  cases l with
  | nil => rfl
  | cons x t => unfold run; rw [if_neg]; simpa [iAt] using h

theorem mark_bare (i : Int) (l : List Int) (h : bareP l = true) : markP i l = 0 := by
  have key : ∀ c, c = 45 ∨ c = 46 → mk3 l c = false := by
    intro c hc
    cases hm : mk3 l c with
    | false => rfl
    | true =>
      exfalso
      have h0 : 3 ≤ l.length ∧ iAt l 0 = c := by
        unfold mk3 at hm
        simp only [Bool.and_eq_true, decide_eq_true_eq] at hm
        exact ⟨hm.1.1, hm.1.2.1⟩
      have hb : blankP (iAt l 0) = false := by
        rw [h0.2]
        rcases hc with rfl | rfl <;> decide
      have hr := run_zero hb
      unfold bareP emptyP at h
      rw [hr, h0.2] at h
      simp only [Bool.or_eq_true, decide_eq_true_eq] at h
      omega
  unfold markP
  rw [key 45 (.inl rfl), key 46 (.inr rfl)]
  simp

theorem empty_bare (l : List Int) (h : emptyP l = true) : bareP l = true := by unfold bareP; rw [h]; rfl

/-- The worlds that hold all that V holds. -/
structure KinT (V : World) where
  val : World
  property : Below V.heap.size V val
theorem kin_call {P : Program} {V : World} {n : KinT V} {f : FuncId} {args : Array Value} {v : Value} (h : Calls P f args n.val fun e w2 => e = .returned v ∧ Below n.val.heap.size n.val w2) :
    Calls P f args n.val fun e w'' => e = .returned v ∧ ∃ m : KinT V, w'' = m.val :=
  h.mono fun e w2 ⟨he, hb⟩ => ⟨he, ⟨w2, n.property.trans (hb.mono n.property.size)⟩, rfl⟩

set_option maxRecDepth 100000 in
set_option maxHeartbeats 8000000 in
theorem tell_plain (mk : Int) (i : Int) (p : Option Addr) (l : List Int) (cap : Nat) (w : World) (hn : (l.length : Int) ≤ 200) (hi0 : 0 ≤ i) (hi1 : i ≤ 1000) (h : Is w p l)
    (M1 : ∀ w', Is w' p l → Calls Try.prog 12 #[.agg #[.int .i64 i, .slice p l.length cap]] w' fun e w2 => e = .returned (.int .i64 mk) ∧ Below w'.heap.size w' w2)
    (M2 : ∀ w', Is w' p l → Calls Try.prog 13 #[.agg #[.int .i64 i, .slice p l.length cap]] w' fun e w2 => e = .returned (.int .i64 mk) ∧ Below w'.heap.size w' w2)
    (E1 : ∀ w', Is w' p l → Calls Try.prog 14 #[.agg #[.int .i64 i, .slice p l.length cap]] w' fun e w2 => e = .returned (.bool false) ∧ Below w'.heap.size w' w2)
    (E2 : ∀ w', Is w' p l → Calls Try.prog 15 #[.agg #[.int .i64 i, .slice p l.length cap]] w' fun e w2 => e = .returned (.bool false) ∧ Below w'.heap.size w' w2)
    (B1 : ∀ w', Is w' p l → Calls Try.prog 16 #[.agg #[.int .i64 i, .slice p l.length cap]] w' fun e w2 => e = .returned (.bool false) ∧ Below w'.heap.size w' w2)
    (B2 : ∀ w', Is w' p l → Calls Try.prog 17 #[.agg #[.int .i64 i, .slice p l.length cap]] w' fun e w2 => e = .returned (.bool false) ∧ Below w'.heap.size w' w2) :
    Calls Try.prog 4 #[.int .i64 i, .slice p l.length cap] w fun e w' => e = .returned (.bool true) ∧ Below w.heap.size w w' := by
  go_enter Try.func4, Try.ntmps4
  go_wp2_with (first | (go_at_call 7; refine (alive_any _).mono ?_; rintro e W ⟨rfl, hB⟩; have hI := h.on hB))
  have hIV := hI.alloc (.cells #[.int .i64 i, .slice p l.length cap] 34)
  have hBV : Below w.heap.size w (W.alloc (.cells #[.int .i64 i, .slice p l.length cap] 34)) := hB.alloc hB.size _
  have hbk : (W.alloc (.cells #[.int .i64 i, .slice p l.length cap] 34)).heap[W.heap.size]? = some (.cells #[.int .i64 i, .slice p l.length cap] 34) := World.alloc_heap_new W _
  have hbx : W.heap.size < (W.alloc (.cells #[.int .i64 i, .slice p l.length cap] 34)).heap.size := by simp
  generalize W.alloc (.cells #[.int .i64 i, .slice p l.length cap] 34) = V at hIV hBV hbk hbx ⊢
  have cV0 : V.cell? ⟨W.heap.size, 0, none⟩ = some (.int .i64 i) := by simp [World.cell?, hbk]
  have cV1 : V.cell? ⟨W.heap.size, 1, none⟩ = some (.slice p l.length cap) := by simp [World.cell?, hbk]
  have hS0 : ∀ n : KinT V, n.val.cell? ⟨W.heap.size, 0, none⟩ = some (.int .i64 i) := fun n => (n.property.cell (p := ⟨W.heap.size, 0, none⟩) hbx).trans cV0
  have hS1 : ∀ n : KinT V, n.val.cell? ⟨W.heap.size, 1, none⟩ = some (.slice p l.length cap) := fun n => (n.property.cell (p := ⟨W.heap.size, 1, none⟩) hbx).trans cV1
  clear hbk hI hB h
  refine wp_region_quiet (C := fun w' => ∃ n : KinT V, w' = n.val) (by kernel_rfl) (by kernel_rfl) ⟨⟨V.drew, (Below.refl _ V).drew⟩, rfl⟩ ?_
  simp only [List.toList_toArray]
  repeat (go_big_quiet_step (first | (go_at_call 12; exact kin_call (M1 _ (hIV.on (KinT.property _)))) | (go_at_call 13; exact kin_call (M2 _ (hIV.on (KinT.property _)))) | (go_at_call 14; exact kin_call (E1 _ (hIV.on (KinT.property _)))) | (go_at_call 15; exact kin_call (E2 _ (hIV.on (KinT.property _)))) | (go_at_call 16; exact kin_call (B1 _ (hIV.on (KinT.property _)))) | (go_at_call 17; exact kin_call (B2 _ (hIV.on (KinT.property _)))) | exact rfl))
  refine wpQuiet_nil ?_
  rintro w' ⟨n, rfl⟩
  go_wp2
  go_ret
  exact ⟨rfl, hBV.trans (n.property.mono hBV.size)⟩

set_option maxRecDepth 100000 in
set_option maxHeartbeats 8000000 in
theorem tell_bare (i : Int) (p : Option Addr) (l : List Int) (cap : Nat) (w : World) (hn : (l.length : Int) ≤ 200) (hi0 : 0 ≤ i) (hi1 : i ≤ 1000) (h : Is w p l)
    (M1 : ∀ w', Is w' p l → Calls Try.prog 12 #[.agg #[.int .i64 i, .slice p l.length cap]] w' fun e w2 => e = .returned (.int .i64 0) ∧ Below w'.heap.size w' w2)
    (M2 : ∀ w', Is w' p l → Calls Try.prog 13 #[.agg #[.int .i64 i, .slice p l.length cap]] w' fun e w2 => e = .returned (.int .i64 0) ∧ Below w'.heap.size w' w2)
    (E1 : ∀ w', Is w' p l → Calls Try.prog 14 #[.agg #[.int .i64 i, .slice p l.length cap]] w' fun e w2 => e = .returned (.bool false) ∧ Below w'.heap.size w' w2)
    (E2 : ∀ w', Is w' p l → Calls Try.prog 15 #[.agg #[.int .i64 i, .slice p l.length cap]] w' fun e w2 => e = .returned (.bool false) ∧ Below w'.heap.size w' w2)
    (B1 : ∀ w', Is w' p l → Calls Try.prog 16 #[.agg #[.int .i64 i, .slice p l.length cap]] w' fun e w2 => e = .returned (.bool true) ∧ Below w'.heap.size w' w2)
    (B2 : ∀ w', Is w' p l → Calls Try.prog 17 #[.agg #[.int .i64 i, .slice p l.length cap]] w' fun e w2 => e = .returned (.bool true) ∧ Below w'.heap.size w' w2) :
    Calls Try.prog 4 #[.int .i64 i, .slice p l.length cap] w fun e w' => e = .returned (.bool true) ∧ Below w.heap.size w w' := by
  go_enter Try.func4, Try.ntmps4
  go_wp2_with (first | (go_at_call 7; refine (alive_any _).mono ?_; rintro e W ⟨rfl, hB⟩; have hI := h.on hB))
  have hIV := hI.alloc (.cells #[.int .i64 i, .slice p l.length cap] 34)
  have hBV : Below w.heap.size w (W.alloc (.cells #[.int .i64 i, .slice p l.length cap] 34)) := hB.alloc hB.size _
  have hbk : (W.alloc (.cells #[.int .i64 i, .slice p l.length cap] 34)).heap[W.heap.size]? = some (.cells #[.int .i64 i, .slice p l.length cap] 34) := World.alloc_heap_new W _
  have hbx : W.heap.size < (W.alloc (.cells #[.int .i64 i, .slice p l.length cap] 34)).heap.size := by simp
  generalize W.alloc (.cells #[.int .i64 i, .slice p l.length cap] 34) = V at hIV hBV hbk hbx ⊢
  have cV0 : V.cell? ⟨W.heap.size, 0, none⟩ = some (.int .i64 i) := by simp [World.cell?, hbk]
  have cV1 : V.cell? ⟨W.heap.size, 1, none⟩ = some (.slice p l.length cap) := by simp [World.cell?, hbk]
  have hS0 : ∀ n : KinT V, n.val.cell? ⟨W.heap.size, 0, none⟩ = some (.int .i64 i) := fun n => (n.property.cell (p := ⟨W.heap.size, 0, none⟩) hbx).trans cV0
  have hS1 : ∀ n : KinT V, n.val.cell? ⟨W.heap.size, 1, none⟩ = some (.slice p l.length cap) := fun n => (n.property.cell (p := ⟨W.heap.size, 1, none⟩) hbx).trans cV1
  clear hbk hI hB h
  refine wp_region_quiet (C := fun w' => ∃ n : KinT V, w' = n.val) (by kernel_rfl) (by kernel_rfl) ⟨⟨V.drew, (Below.refl _ V).drew⟩, rfl⟩ ?_
  simp only [List.toList_toArray]
  repeat (go_big_quiet_step (first | (go_at_call 12; exact kin_call (M1 _ (hIV.on (KinT.property _)))) | (go_at_call 13; exact kin_call (M2 _ (hIV.on (KinT.property _)))) | (go_at_call 14; exact kin_call (E1 _ (hIV.on (KinT.property _)))) | (go_at_call 15; exact kin_call (E2 _ (hIV.on (KinT.property _)))) | (go_at_call 16; exact kin_call (B1 _ (hIV.on (KinT.property _)))) | (go_at_call 17; exact kin_call (B2 _ (hIV.on (KinT.property _)))) | exact rfl))
  refine wpQuiet_nil ?_
  rintro w' ⟨n, rfl⟩
  go_wp2
  go_ret
  exact ⟨rfl, hBV.trans (n.property.mono hBV.size)⟩

set_option maxRecDepth 100000 in
set_option maxHeartbeats 8000000 in
theorem tell_empty (i : Int) (p : Option Addr) (l : List Int) (cap : Nat) (w : World) (hn : (l.length : Int) ≤ 200) (hi0 : 0 ≤ i) (hi1 : i ≤ 1000) (h : Is w p l)
    (M1 : ∀ w', Is w' p l → Calls Try.prog 12 #[.agg #[.int .i64 i, .slice p l.length cap]] w' fun e w2 => e = .returned (.int .i64 0) ∧ Below w'.heap.size w' w2)
    (M2 : ∀ w', Is w' p l → Calls Try.prog 13 #[.agg #[.int .i64 i, .slice p l.length cap]] w' fun e w2 => e = .returned (.int .i64 0) ∧ Below w'.heap.size w' w2)
    (E1 : ∀ w', Is w' p l → Calls Try.prog 14 #[.agg #[.int .i64 i, .slice p l.length cap]] w' fun e w2 => e = .returned (.bool true) ∧ Below w'.heap.size w' w2)
    (E2 : ∀ w', Is w' p l → Calls Try.prog 15 #[.agg #[.int .i64 i, .slice p l.length cap]] w' fun e w2 => e = .returned (.bool true) ∧ Below w'.heap.size w' w2)
    (B1 : ∀ w', Is w' p l → Calls Try.prog 16 #[.agg #[.int .i64 i, .slice p l.length cap]] w' fun e w2 => e = .returned (.bool true) ∧ Below w'.heap.size w' w2)
    (B2 : ∀ w', Is w' p l → Calls Try.prog 17 #[.agg #[.int .i64 i, .slice p l.length cap]] w' fun e w2 => e = .returned (.bool true) ∧ Below w'.heap.size w' w2) :
    Calls Try.prog 4 #[.int .i64 i, .slice p l.length cap] w fun e w' => e = .returned (.bool true) ∧ Below w.heap.size w w' := by
  go_enter Try.func4, Try.ntmps4
  go_wp2_with (first | (go_at_call 7; refine (alive_any _).mono ?_; rintro e W ⟨rfl, hB⟩; have hI := h.on hB))
  have hIV := hI.alloc (.cells #[.int .i64 i, .slice p l.length cap] 34)
  have hBV : Below w.heap.size w (W.alloc (.cells #[.int .i64 i, .slice p l.length cap] 34)) := hB.alloc hB.size _
  have hbk : (W.alloc (.cells #[.int .i64 i, .slice p l.length cap] 34)).heap[W.heap.size]? = some (.cells #[.int .i64 i, .slice p l.length cap] 34) := World.alloc_heap_new W _
  have hbx : W.heap.size < (W.alloc (.cells #[.int .i64 i, .slice p l.length cap] 34)).heap.size := by simp
  generalize W.alloc (.cells #[.int .i64 i, .slice p l.length cap] 34) = V at hIV hBV hbk hbx ⊢
  have cV0 : V.cell? ⟨W.heap.size, 0, none⟩ = some (.int .i64 i) := by simp [World.cell?, hbk]
  have cV1 : V.cell? ⟨W.heap.size, 1, none⟩ = some (.slice p l.length cap) := by simp [World.cell?, hbk]
  have hS0 : ∀ n : KinT V, n.val.cell? ⟨W.heap.size, 0, none⟩ = some (.int .i64 i) := fun n => (n.property.cell (p := ⟨W.heap.size, 0, none⟩) hbx).trans cV0
  have hS1 : ∀ n : KinT V, n.val.cell? ⟨W.heap.size, 1, none⟩ = some (.slice p l.length cap) := fun n => (n.property.cell (p := ⟨W.heap.size, 1, none⟩) hbx).trans cV1
  clear hbk hI hB h
  refine wp_region_quiet (C := fun w' => ∃ n : KinT V, w' = n.val) (by kernel_rfl) (by kernel_rfl) ⟨⟨V.drew, (Below.refl _ V).drew⟩, rfl⟩ ?_
  simp only [List.toList_toArray]
  repeat (go_big_quiet_step (first | (go_at_call 12; exact kin_call (M1 _ (hIV.on (KinT.property _)))) | (go_at_call 13; exact kin_call (M2 _ (hIV.on (KinT.property _)))) | (go_at_call 14; exact kin_call (E1 _ (hIV.on (KinT.property _)))) | (go_at_call 15; exact kin_call (E2 _ (hIV.on (KinT.property _)))) | (go_at_call 16; exact kin_call (B1 _ (hIV.on (KinT.property _)))) | (go_at_call 17; exact kin_call (B2 _ (hIV.on (KinT.property _)))) | exact rfl))
  refine wpQuiet_nil ?_
  rintro w' ⟨n, rfl⟩
  go_wp2
  go_ret
  exact ⟨rfl, hBV.trans (n.property.mono hBV.size)⟩


theorem tell_law (i : Int) (p : Option Addr) (l : List Int) (cap : Nat) (w : World) (hl : l.length ≤ cap) (hc : cap ≤ maxLen) (hn : (l.length : Int) ≤ 200) (hi0 : 0 ≤ i) (hi1 : i ≤ 1000) (h : Is w p l) :
    Calls Try.prog 4 #[.int .i64 i, .slice p l.length cap] w fun e w' => e = .returned (.bool true) ∧ Below w.heap.size w w' := by
  have hm1 : (l.length : Int) ≤ 9223372036854775807 := by omega
  have hm2 : (cap : Int) ≤ 9223372036854775807 := by unfold maxLen at hc; omega
  have hm3 : (l.length : Int) ≤ 2 ^ 62 := by omega
  have M1 := fun w' => marker_any i p l cap w' hm1
  have M2 := fun w' => rmarker_any i p l cap w' hm1
  have E1 := fun w' => empty_any i p l cap w' hl hm2
  have E2 := fun w' => rempty_any i p l cap w' hm3
  have B1 := fun w' => bare_any i p l cap w' hl hm2
  have B2 := fun w' => rbare_any i p l cap w' hm3
  cases hb : bareP l with
  | false =>
    have he : emptyP l = false := by
      cases he : emptyP l with
      | false => rfl
      | true => rw [empty_bare l he] at hb; cases hb
    rw [hb] at B1 B2
    rw [he] at E1 E2
    exact tell_plain _ i p l cap w hn hi0 hi1 h M1 M2 E1 E2 B1 B2
  | true =>
    rw [hb] at B1 B2
    rw [mark_bare i l hb] at M1 M2
    cases he : emptyP l with
    | false =>
      rw [he] at E1 E2
      exact tell_bare i p l cap w hn hi0 hi1 h M1 M2 E1 E2 B1 B2
    | true =>
      rw [he] at E1 E2
      exact tell_empty i p l cap w hn hi0 hi1 h M1 M2 E1 E2 B1 B2
end Go.Proofs.Ytcijjbnkdjmklaa
