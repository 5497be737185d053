/- double.Read: which text it answers, or which fault, for every list of lines that is not too great. -/
import Derived.Test.YtpiefdpcinjkpaaDoorRdp
import Derived.Test.YtpiefdpcinjkpaaDoorAddT
import Derived.Test.YtpiefdpcinjkpaaDoorAddF
set_option linter.unusedVariables false
set_option linter.unusedSimpArgs false
namespace Go.Proofs.YtpiefdpcinjkpaaDoor
open Go.RowKit Go.Shelf

/-- Between two lines. -/
structure Rdi (n₀ D : Nat) (w : World) (ls : List (List Int)) (k : Nat) (W : World) : Prop where
  dr : ∃ vl vc vm R', Dr n₀ D (fun _ => False) W vl vc vm R' ((siAt ls k).C.map drI) (siAt ls k).o (hards ((siAt ls k).L.flatten ++ (siAt ls k).C)) ∧ R'.map (·.t) = (siAt ls k).L.map (·.map drI)
  below : Below n₀ w W
  ok : ∀ j, j < k → flAt ls j = 0

theorem add_items {n₀ D : Nat} {X : Nat → Prop} {R : List Row} {s : Si} {t : List Int} {last : Bool} {e : Ending} {w' : World} (hR : R.map (·.t) = s.L.map (·.map drI)) (h : AddPost n₀ D X R (s.C.map drI) (hards (s.L.flatten ++ s.C)) (lnT s.o t) last e w') :
    (flP last 0 (lnT s.o t) ≠ 0 ∧ e = .returned (.int .i64 (flP last 0 (lnT s.o t) : Nat))) ∨
    (flP last 0 (lnT s.o t) = 0 ∧ e = .returned (.int .i64 0) ∧ ∃ vl vc vm R', Dr n₀ D X w' vl vc vm R' ((siNext s t last).C.map drI) (siNext s t last).o (hards ((siNext s t last).L.flatten ++ (siNext s t last).C)) ∧ R'.map (·.t) = (siNext s t last).L.map (·.map drI)) := by
  unfold AddPost at h
  rw [faultOf_flP] at h
  rcases h with ⟨h1, h2⟩ | ⟨h1, h2, vl, vc, vm, R', hd, hr⟩
  · exact .inl ⟨h1, h2⟩
  · refine .inr ⟨h1, h2, vl, vc, vm, R', ?_⟩
    rw [dsAt_fold, List.take_length] at hd hr
    obtain ⟨i1, i2, i3⟩ := ds_items last (lnT s.o t) (lnT s.o t) 0 0 ⟨s.C.map drI, hards (s.L.flatten ++ s.C), false, 0⟩ (by simp) (.inl ⟨rfl, Nat.le_refl _⟩) h1
    rw [i1, i2, i3] at hd
    rw [i1, i3] at hr
    simp only [Nat.sub_self, List.take_zero, List.append_nil] at hd hr
    unfold siNext
    cases ho : opnI false (itP last 0 (lnT s.o t)) with
    | true =>
      rw [ho] at hd hr
      simp only [if_true] at hd hr ⊢
      refine ⟨?_, by rw [hr, hR]⟩
      rw [← List.append_assoc, hards_app, List.map_append]
      exact hd
    | false =>
      rw [ho] at hd hr
      simp only [Bool.false_eq_true, if_false] at hd hr ⊢
      refine ⟨?_, by rw [hr, hR]; simp⟩
      simp only [List.map_nil, List.append_nil, List.flatten_append, List.flatten_cons, List.flatten_nil]
      rw [← List.append_assoc, hards_app]
      exact hd

theorem lAt_row {R : List Row} {k : Nat} {r : Row} (h : R[k]? = some r) : lAt (R.map (·.t)) k = r.t := by simp [lAt, h]

/-- One line more. -/
theorem add_any {n₀ D : Nat} {w W : World} {R : List Row} {k : Nat} {r : Row} (hr : R[k]? = some r) (hI : Rdi n₀ D w (R.map (·.t)) k W) (h0n : 0 < n₀) (hc : r.t.length ≤ r.c) (hm : r.c ≤ maxLen) (hq : ∀ a, r.q = some a → 0 < r.t.length → a.block < n₀) (hIs : Is w r.q r.t) (hT : Tab w) (hn : R.length ≤ 100000) (ht : totK (R.map (·.t)) R.length ≤ 1048576) :
    Calls Tryd.prog 19 #[.pointer (some ⟨D, 0, none⟩), .slice r.q r.t.length r.c, .bool (decide (k + 1 = R.length))] W fun e w' =>
      (flAt (R.map (·.t)) k ≠ 0 ∧ e = .returned (.int .i64 (flAt (R.map (·.t)) k : Nat)) ∧ Below n₀ w w') ∨ (e = .returned (.int .i64 0) ∧ Rdi n₀ D w (R.map (·.t)) (k + 1) w') := by
  obtain ⟨⟨vl, vc, vm, R', hd, hR⟩, hb, hok⟩ := hI
  have hk : k < R.length := (List.getElem?_eq_some_iff.1 hr).1
  obtain ⟨z1, z2, z3, z4, z5⟩ := si_size (R.map (·.t)) k
  have hl := lAt_row hr
  have tk := totK_mono (R.map (·.t)) (show k + 1 ≤ R.length by omega)
  rw [totK, hl] at tk
  have hIW := hIs.below hq hb
  have hTW := hT.below hb h0n
  have l1 : R'.length ≤ 1048576 := by
    have := congrArg List.length hR
    simp at this
    omega
  have l2 := hards_len ((siAt (R.map (·.t)) k).L.flatten ++ (siAt (R.map (·.t)) k).C)
  have l3 : ((siAt (R.map (·.t)) k).C.map drI).length ≤ totK (R.map (·.t)) k := by rw [List.length_append] at z1; rw [List.length_map]; omega
  have hlast : decide (k + 1 = (R.map (·.t)).length) = decide (k + 1 = R.length) := by simp
  have fin : ∀ (e : Ending) (w' : World), Below n₀ W w' ∧ AddPost n₀ D (fun _ => False) R' ((siAt (R.map (·.t)) k).C.map drI) (hards ((siAt (R.map (·.t)) k).L.flatten ++ (siAt (R.map (·.t)) k).C)) (lnT (siAt (R.map (·.t)) k).o r.t) (decide (k + 1 = R.length)) e w' →
      (flAt (R.map (·.t)) k ≠ 0 ∧ e = .returned (.int .i64 (flAt (R.map (·.t)) k : Nat)) ∧ Below n₀ w w') ∨ (e = .returned (.int .i64 0) ∧ Rdi n₀ D w (R.map (·.t)) (k + 1) w') := by
    rintro e w' ⟨hb', hp⟩
    have := add_items hR hp
    have hfl : flAt (R.map (·.t)) k = flP (decide (k + 1 = R.length)) 0 (lnT (siAt (R.map (·.t)) k).o r.t) := by unfold flAt; rw [hl, hlast]
    have hsi : siAt (R.map (·.t)) (k + 1) = siNext (siAt (R.map (·.t)) k) r.t (decide (k + 1 = R.length)) := by rw [siAt, hl, hlast]
    rw [← hfl, ← hsi] at this
    rcases this with ⟨h1, h2⟩ | ⟨h1, h2, h3⟩
    · exact .inl ⟨h1, h2, hb.trans hb'⟩
    · refine .inr ⟨h2, h3, hb.trans hb', fun j hj => ?_⟩
      by_cases e : j = k
      · subst e; exact h1
      · exact hok j (by omega)
  cases ho : (siAt (R.map (·.t)) k).o with
  | true =>
    rw [ho] at hd fin
    exact ((callsIn_wide (n := 9)).1 (addT_in 9 n₀ D _ W vl vc vm R' _ _ r.q r.t r.c _ hd h0n hc hm hq hIW hTW l1 (by omega) (by omega))).mono fin
  | false =>
    rw [ho] at hd fin
    exact ((callsIn_wide (n := 9)).1 (addF_in 9 n₀ D _ W vl vc vm R' _ _ r.q r.t r.c _ hd h0n hc hm hq hIW hTW l1 (by omega) (by omega))).mono fin

theorem flowT_items {R' : List Row} {L : List (List Item)} (h : R'.map (·.t) = L.map (·.map drI)) : flowT R' = (flI L L.length).1.map drI := by
  have hlen : R'.length = L.length := by have := congrArg List.length h; simpa using this
  rw [flowT_flS, hlen]
  exact (flS_items h L.length).1

theorem text_end {n₀ D : Nat} {w W : World} {ls : List (List Int)} (hI : Rdi n₀ D w ls ls.length W) (hn : ls.length ≤ 100000) (ht : totK ls ls.length ≤ 1048576) :
    readE ls = 0 ∧ Calls Tryd.prog 20 #[.pointer (some ⟨D, 0, none⟩)] W fun e w' => ∃ v, e = .returned v ∧ Owns w' n₀ v (readT ls) ∧ Below n₀ w w' := by
  obtain ⟨⟨vl, vc, vm, R', hd, hR⟩, hb, hok⟩ := hI
  obtain ⟨z1, z2, z3, z4, z5⟩ := si_size ls ls.length
  obtain ⟨o1, o2⟩ := si_last ls hok
  rw [List.length_append] at z1
  have hlen : R'.length = (siAt ls ls.length).L.length := by have := congrArg List.length hR; simpa using this
  have hS : Sized R' := by
    refine ⟨by omega, fun i => ?_⟩
    unfold tAt
    cases hr : R'[i]? with
    | none => simp
    | some r =>
      have hm : r.t ∈ R'.map (·.t) := List.mem_map.2 ⟨r, List.mem_of_getElem? hr, rfl⟩
      rw [hR] at hm
      obtain ⟨u, hu, e⟩ := List.mem_map.1 hm
      have := flat_le _ _ hu
      show r.t.length ≤ _
      rw [← e, List.length_map]
      omega
  have hfl := flowT_items hR
  have hfi := okI_fl z3 (siAt ls ls.length).L.length
  have hh := hards_fl (siAt ls ls.length).L (siAt ls ls.length).L.length (Nat.le_refl _)
  rw [List.take_length] at hh
  have hlen2 : (flowT R').length ≤ 2199025352704 := by rw [flowT_flS]; exact flS_len R' hS R'.length (Nat.le_refl _)
  have hcnt : (flowT R').count 92 ≤ (hards ((siAt ls ls.length).L.flatten ++ (siAt ls ls.length).C)).length := by
    rw [hfl, count_items _ hfi, hh, o2, List.append_nil]
    exact Nat.le_refl _
  refine ⟨readE_none hok, (text_any n₀ D _ W vl vc vm R' _ _ _ hd hS hlen2 hcnt).mono ?_⟩
  rintro e w' ⟨v, rfl, ho, hb'⟩
  refine ⟨v, rfl, ?_, hb.trans (hb'.mono hd.size)⟩
  have : (fillP (hards ((siAt ls ls.length).L.flatten ++ (siAt ls ls.length).C)) (flowT R')).1 = readT ls := by
    rw [o2, List.append_nil, ← hh, hfl, fillP_items _ hfi]
    rfl
  rw [this] at ho
  exact ownsRow_mono ho hd.size

set_option maxRecDepth 100000 in
set_option maxHeartbeats 2000000 in
theorem Read_any (p : Option Addr) (R : List Row) (cap : Nat) (w : World) (hM : Mt w p R) (hn : R.length ≤ 100000) (ht : totK (R.map (·.t)) R.length ≤ 1048576) (hT : Tab w) :
    Calls Tryd.prog 11 #[.slice p R.length cap] w fun e w' => Below w.heap.size w w' ∧ ((readE (R.map (·.t)) ≠ 0 ∧ e = .returned (.tuple #[.slice none 0 0, .int .i64 (readE (R.map (·.t)) : Nat)])) ∨ (readE (R.map (·.t)) = 0 ∧ ∃ v, e = .returned (.tuple #[v, .int .i64 0]) ∧ Owns w' w.heap.size v (readT (R.map (·.t))))) := by
  have h0n := hT.lt
  have hI0 : Rdi w.heap.size w.heap.size w (R.map (·.t)) 0 (w.alloc (.cells #[.slice none 0 0, .slice none 0 0, .bool false, .slice none 0 0] 42)) := by
    refine ⟨⟨.slice none 0 0, .slice none 0 0, .slice none 0 0, [], ⟨World.alloc_heap_new w _, Nat.le_refl _, World.ownsRow_nil _ _ 25 1, World.ownsRow_nil _ _ 3 1, World.ownsRow_nil _ _ 3 1, (fun g e => by cases e), (fun r hr => by cases hr), (fun r hr => by cases hr), (fun b h => h.elim), by simp⟩, rfl⟩, (Below.refl _ w).alloc (Nat.le_refl _) _, fun j hj => by omega⟩
  have AD := fun k r hr W h => add_any (n₀ := w.heap.size) (D := w.heap.size) (k := k) (r := r) (W := W) hr h h0n (hM.1 k r hr).1 (hM.1 k r hr).2.1 (hM.1 k r hr).2.2.lt (hM.1 k r hr).2.2 hT hn ht
  have TX := fun W h => text_end (n₀ := w.heap.size) (D := w.heap.size) (w := w) (W := W) (ls := R.map (·.t)) h (by simpa using hn) (by simpa using ht)
  rw [List.length_map] at TX
  have RF := fun k (hk : k < R.length) h hf => readE_first (ls := R.map (·.t)) (k := k) (by simpa using hk) h hf
  obtain ⟨ls, hls⟩ : ∃ ls, R.map (·.t) = ls := ⟨_, rfl⟩
  rw [hls] at hI0 AD TX RF ⊢
  have hn2 : (R.length : Int) ≤ 100000 := by omega
  clear hls ht hT
  go_enter Tryd.func11, Tryd.ntmps11
  go_wp2
  generalize w.alloc (.cells #[.slice none 0 0, .slice none 0 0, .bool false, .slice none 0 0] 42) = W0 at hI0
  go_loopw [10] (fun iv wr => ∃ (k : Nat), k ≤ R.length ∧ iv = .int .i64 k ∧ Rdi w.heap.size w.heap.size w ls k wr) (fun iv _ => R.length - (intOf iv).toNat)
  case atStart => exact ⟨0, Nat.zero_le _, rfl, hI0⟩
  case round =>
    obtain ⟨k, hk, rfl, hI⟩ := hrel
    by_cases hlt : k < R.length
    · have hli : (k : Int) < R.length := by omega
      obtain ⟨r, hr⟩ : ∃ r, R[k]? = some r := ⟨_, List.getElem?_eq_getElem hlt⟩
      obtain ⟨b, o, rfl, hcell⟩ := (hM.on hI.below).at (by omega)
      have c0 := hcell k r hr
      have A := AD k r hr wr hI
      have hbl : ((k : Int) == (R.length : Int) - 1) = decide (k + 1 = R.length) := by
        by_cases h : k + 1 = R.length
        · rw [decide_eq_true h]; simp; omega
        · rw [decide_eq_false h]; simp; omega
      have hok := hI.ok
      have HR : Hid (flAt ls k ≠ 0 → readE ls = flAt ls k) := RF k hlt hok
      rw [← hbl] at A
      obtain ⟨rq, rt, rc⟩ := r
      dsimp only at c0 A
      clear AD TX RF hcell hM hI0 hI hbl hok hr
      go_wp2_with (first | (go_at_call 19; refine A.mono ?_; rintro e w' (⟨h1, rfl, h3⟩ | ⟨rfl, h3⟩)))
      · have h1' : ¬ ((flAt ls k : Nat) : Int) = 0 := by omega
        have h1b : (((flAt ls k : Nat) : Int) == 0) = false := by simpa using h1
        rw [HR.out h1]
        go_wp2
        go_ret2
        exact ⟨h3, .inl ⟨h1, rfl⟩⟩
      · go_wp2
        go_roundw
        case rel => exact ⟨k + 1, by omega, by go_num, h3⟩
        case measure => simp [intOf]; omega
    · obtain rfl : k = R.length := by omega
      obtain ⟨hE, TT⟩ := TX wr hI
      clear AD TX RF hM hI0
      go_wp2_with (first | (go_at_call 20; refine TT.mono ?_; rintro e w' ⟨v, rfl, ho, hb⟩))
      go_ret2
      exact ⟨hb, .inr ⟨hE, v, rfl, ho⟩⟩
end Go.Proofs.YtpiefdpcinjkpaaDoor
