/- The document's Points by fours of bytes. -/
import Derived.Test.YtdkodepeglpimaaDoorRefPts
set_option linter.unusedVariables false
set_option linter.unusedSimpArgs false
namespace Go.Proofs.YtdkodepeglpimaaDoor
open Go.RowKit Go.Shelf

set_option maxRecDepth 100000 in
set_option maxHeartbeats 1000000 in
theorem refPts_four (p q : Option Addr) (len cap m : Nat) (bs : List UInt8) (w : World) (h : (len : Int) ≤ 1048576) (hbl : (bs.length : Int) ≤ 1048576) (hcm : bs.length ≤ cap - m) (hc : cap ≤ maxLen)
    (hF : Calls Tryd.prog 12 #[.slice p len cap] w fun e w' => e = .returned (.tuple #[.int .i64 4, .int .i64 m]) ∧ Below w.heap.size w w')
    (hsl : ∀ w2, (Instr.slice 22 (.slice p len cap) (some (.int .i64 m)) none none).run Tryd.prog w2 = .ok (.slice q bs.length (cap - m)) w2)
    (hL : Bs w q bs) (hq : ∀ a, q = some a → 0 < bs.length → a.block < w.heap.size) :
    Calls Tryd.prog 10 #[.slice p len cap] w fun e w' => ∃ v ec, e = .returned (.tuple #[v, .int .i64 ec]) ∧ Below w.heap.size w w' ∧
      PRes (rightP 4 bs) (ptsP 4 bs) ec v w.heap.size w' := by
  obtain ⟨r, hr⟩ : ∃ r, rightP 4 bs = r := ⟨_, rfl⟩
  obtain ⟨ps, hps⟩ : ∃ ps, ptsP 4 bs = ps := ⟨_, rfl⟩
  obtain ⟨t1, t2⟩ := link32 4 true fp4 bs.length bs (Nat.le_refl _)
  rw [hr] at t1
  rw [hr, hps]
  have HT : Hid (r = (decide (bs.length % 4 = 0) && (unitsQ true bs).all okP)) := t1
  have HP : Hid (r = true → ps = unitsQ true bs) := fun e => hps.symm.trans (t2 (by rw [← t1]; exact e))
  have S := fun W (hB : Below w.heap.size w W) => units4_true q bs (cap - m) W hbl (hL.below hq hB) (fun a e hh => by have := hq a e hh; have := hB.size; omega)
  have hul : (unitsQ true bs).length = bs.length / 4 := by rw [← units4_all, units4_len]
  have hun : ((unitsQ true bs).length : Int) ≤ 1048576 := by omega
  rw [units4_all, ← hul] at S
  clear hr hps t1 t2 hL hq hul
  unfold maxLen at hc
  generalize unitsQ true bs = us at S HT HP hun
  generalize decide (bs.length % 4 = 0) = ev at S HT
  go_enter Tryd.func10, Tryd.ntmps10
  go_wp2_with (first | (go_at_call 12; refine hF.mono ?_; rintro e w1 ⟨rfl, hb⟩) | (go_at_call 19; refine (S _ hb).mono ?_; rintro e w2 ⟨v, rfl, ho, hb2⟩; obtain ⟨a, k, c, rfl⟩ := ownsRow_form ho; obtain ⟨hI, hk, -, -, -⟩ := is_of_row ho; subst hk))
  go_loop [7, 8] (fun b i => ∃ k : Nat, k ≤ us.length ∧ i = .int .i64 k ∧ b = .bool (ev && (us.take k).all okP)) (fun _ i => us.length - (intOf i).toNat)
  case atStart => exact ⟨0, Nat.zero_le _, rfl, by simp⟩
  case round =>
    obtain ⟨k, hk, rfl, rfl⟩ := hrel
    by_cases hlt : k < us.length
    · obtain ⟨b, o, rfl, hcl⟩ := hI.at (by omega)
      have qk := hcl k hlt
      have hget : us[k]?.getD 0 = us[k] := by simp [hlt]
      rw [hget] at qk
      have HE : Hid ((us.take (k + 1)).all okP = ((us.take k).all okP && okP us[k])) := by
        show (us.take (k + 1)).all okP = _
        rw [List.take_succ_eq_append_getElem hlt, List.all_append]
        simp
      clear hcl hget
      generalize us[k] = x at qk HE
      generalize (us.take k).all okP = al at HE
      cases hv : (ev && al)
      · go_wp2_with (go_at_call 21; refine (right_any _ _).mono ?_; rintro e w' ⟨rfl, rfl⟩)
        go_round
        case rel => exact ⟨k + 1, by omega, by go_num, congrArg Value.bool (by rw [HE.out, ← Bool.and_assoc, hv]; rfl)⟩
        case measure => simp [intOf]; omega
      · go_wp2_with (go_at_call 21; refine (right_any _ _).mono ?_; rintro e w' ⟨rfl, rfl⟩)
        go_round
        case rel => exact ⟨k + 1, by omega, by go_num, congrArg Value.bool (by rw [HE.out, ← Bool.and_assoc, hv]; simp)⟩
        case measure => simp [intOf]; omega
    · obtain rfl : k = us.length := by omega
      rw [List.take_length, ← HT.out]
      clear HT S
      cases r
      · go_wp2
        go_ret2
        exact ⟨_, _, rfl, hb.trans (hb2.mono hb.size), PRes.no⟩
      · obtain rfl : ps = us := HP.out rfl
        clear HP
        go_wp2
        go_ret2
        exact ⟨_, _, rfl, hb.trans (hb2.mono hb.size), PRes.yes (ownsRow_mono ho hb.size)⟩

set_option maxRecDepth 100000 in
set_option maxHeartbeats 1000000 in
theorem refPts_five (p q : Option Addr) (len cap m : Nat) (bs : List UInt8) (w : World) (h : (len : Int) ≤ 1048576) (hbl : (bs.length : Int) ≤ 1048576) (hcm : bs.length ≤ cap - m) (hc : cap ≤ maxLen)
    (hF : Calls Tryd.prog 12 #[.slice p len cap] w fun e w' => e = .returned (.tuple #[.int .i64 5, .int .i64 m]) ∧ Below w.heap.size w w')
    (hsl : ∀ w2, (Instr.slice 22 (.slice p len cap) (some (.int .i64 m)) none none).run Tryd.prog w2 = .ok (.slice q bs.length (cap - m)) w2)
    (hL : Bs w q bs) (hq : ∀ a, q = some a → 0 < bs.length → a.block < w.heap.size) :
    Calls Tryd.prog 10 #[.slice p len cap] w fun e w' => ∃ v ec, e = .returned (.tuple #[v, .int .i64 ec]) ∧ Below w.heap.size w w' ∧
      PRes (rightP 5 bs) (ptsP 5 bs) ec v w.heap.size w' := by
  obtain ⟨r, hr⟩ : ∃ r, rightP 5 bs = r := ⟨_, rfl⟩
  obtain ⟨ps, hps⟩ : ∃ ps, ptsP 5 bs = ps := ⟨_, rfl⟩
  obtain ⟨t1, t2⟩ := link32 5 false fp5 bs.length bs (Nat.le_refl _)
  rw [hr] at t1
  rw [hr, hps]
  have HT : Hid (r = (decide (bs.length % 4 = 0) && (unitsQ false bs).all okP)) := t1
  have HP : Hid (r = true → ps = unitsQ false bs) := fun e => hps.symm.trans (t2 (by rw [← t1]; exact e))
  have S := fun W (hB : Below w.heap.size w W) => units4_false q bs (cap - m) W hbl (hL.below hq hB) (fun a e hh => by have := hq a e hh; have := hB.size; omega)
  have hul : (unitsQ false bs).length = bs.length / 4 := by rw [← units4_all, units4_len]
  have hun : ((unitsQ false bs).length : Int) ≤ 1048576 := by omega
  rw [units4_all, ← hul] at S
  clear hr hps t1 t2 hL hq hul
  unfold maxLen at hc
  generalize unitsQ false bs = us at S HT HP hun
  generalize decide (bs.length % 4 = 0) = ev at S HT
  go_enter Tryd.func10, Tryd.ntmps10
  go_wp2_with (first | (go_at_call 12; refine hF.mono ?_; rintro e w1 ⟨rfl, hb⟩) | (go_at_call 19; refine (S _ hb).mono ?_; rintro e w2 ⟨v, rfl, ho, hb2⟩; obtain ⟨a, k, c, rfl⟩ := ownsRow_form ho; obtain ⟨hI, hk, -, -, -⟩ := is_of_row ho; subst hk))
  go_loop [7, 8] (fun b i => ∃ k : Nat, k ≤ us.length ∧ i = .int .i64 k ∧ b = .bool (ev && (us.take k).all okP)) (fun _ i => us.length - (intOf i).toNat)
  case atStart => exact ⟨0, Nat.zero_le _, rfl, by simp⟩
  case round =>
    obtain ⟨k, hk, rfl, rfl⟩ := hrel
    by_cases hlt : k < us.length
    · obtain ⟨b, o, rfl, hcl⟩ := hI.at (by omega)
      have qk := hcl k hlt
      have hget : us[k]?.getD 0 = us[k] := by simp [hlt]
      rw [hget] at qk
      have HE : Hid ((us.take (k + 1)).all okP = ((us.take k).all okP && okP us[k])) := by
        show (us.take (k + 1)).all okP = _
        rw [List.take_succ_eq_append_getElem hlt, List.all_append]
        simp
      clear hcl hget
      generalize us[k] = x at qk HE
      generalize (us.take k).all okP = al at HE
      cases hv : (ev && al)
      · go_wp2_with (go_at_call 21; refine (right_any _ _).mono ?_; rintro e w' ⟨rfl, rfl⟩)
        go_round
        case rel => exact ⟨k + 1, by omega, by go_num, congrArg Value.bool (by rw [HE.out, ← Bool.and_assoc, hv]; rfl)⟩
        case measure => simp [intOf]; omega
      · go_wp2_with (go_at_call 21; refine (right_any _ _).mono ?_; rintro e w' ⟨rfl, rfl⟩)
        go_round
        case rel => exact ⟨k + 1, by omega, by go_num, congrArg Value.bool (by rw [HE.out, ← Bool.and_assoc, hv]; simp)⟩
        case measure => simp [intOf]; omega
    · obtain rfl : k = us.length := by omega
      rw [List.take_length, ← HT.out]
      clear HT S
      cases r
      · go_wp2
        go_ret2
        exact ⟨_, _, rfl, hb.trans (hb2.mono hb.size), PRes.no⟩
      · obtain rfl : ps = us := HP.out rfl
        clear HP
        go_wp2
        go_ret2
        exact ⟨_, _, rfl, hb.trans (hb2.mono hb.size), PRes.yes (ownsRow_mono ho hb.size)⟩

end Go.Proofs.YtdkodepeglpimaaDoor
