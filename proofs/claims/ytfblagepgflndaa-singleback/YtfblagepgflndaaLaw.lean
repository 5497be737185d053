/- SingleReads' and SingleFolds' walks. -/
import Derived.Test.YtfblagepgflndaaAlv
import Derived.Test.YtfblagepgflndaaBase
set_option linter.unusedVariables false
set_option linter.unusedSimpArgs false
namespace Go.Proofs.Ytfblagepgflndaa
open Go.RowKit Go.Shelf

theorem belowN {n₀ : Nat} {A B : World} (h : Below n₀ A B) (k : Nat) : Below n₀ A (B.drewN k) := ⟨h.os, h.tape, h.output, h.size, h.block⟩
def Shrt (R : List Row) : Prop := R.length ≤ 40 ∧ ∀ (j : Nat) (r : Row), R[j]? = some r → r.t.length ≤ 200
theorem Shrt.at {R : List Row} (h : Shrt R) (i : Nat) : (tAt R i).length ≤ 200 := by
  unfold tAt
  cases hr : R[i]? with
  | none => simp
  | some r => exact h.2 i r hr
theorem Shrt.sized {R : List Row} (h : Shrt R) : Sized R := ⟨by have := h.1; omega, fun i => Nat.le_trans (h.at i) (by omega)⟩
theorem Shrt.flow {R : List Row} (h : Shrt R) : (flowT R).length ≤ 100000 := by
  have h1 := h.1
  have h3 := joinT_len sepFl (trimG R) 200 R.length (fun i => Nat.le_trans (trimF_le _ _ _) (h.at i)) (fun b i hb hi => sepFl_len _ b i hb hi) (told (tellF R) R.length) (fun i hi => by
    unfold told at hi
    have := List.mem_range.1 (List.mem_filter.1 hi).1
    omega)
  have h4 := told_len (tellF R) R.length
  have : (told (tellF R) R.length).length * (200 + R.length + 1) ≤ 60 * 261 := Nat.mul_le_mul (by omega) (by omega)
  unfold flowT
  omega
theorem readS_len (t : List Int) : (readS t).length ≤ t.length := by unfold readS; rw [List.length_map]; exact sg_len t 0

set_option maxRecDepth 100000 in
set_option maxHeartbeats 2000000 in
theorem reads_law (p : Option Addr) (R : List Row) (cap : Nat) (w : World) (hl : R.length ≤ maxLen) (hM : Mt w p R) :
    Calls Try.prog 3 #[.slice p R.length cap] w fun e w' => e = .returned (.bool true) ∧ Below w.heap.size w w' := by
  have AL := alive_any w
  by_cases h40 : R.length ≤ 40
  · have h40' : ¬ (40 : Int) < R.length := by omega
    have h40'' : (R.length : Int) ≤ 40 := by omega
    go_enter Try.func3, Try.ntmps3
    go_wp2_with (first | (go_at_call 6; refine AL.mono ?_; rintro e W ⟨rfl, hB⟩))
    clear AL
    go_loopw [4] (fun iv wr => ∃ (k : Nat), k ≤ R.length ∧ iv = .int .i64 k ∧ Hid (∀ j r, j < k → R[j]? = some r → r.t.length ≤ 200) ∧ Below w.heap.size w wr) (fun iv _ => R.length - (intOf iv).toNat)
    case atStart => exact ⟨0, Nat.zero_le _, rfl, fun j r hj => by omega, hB⟩
    case round =>
      obtain ⟨k, hk, rfl, Hn, hb⟩ := hrel
      have hMW := hM.on hb
      by_cases hlt : k < R.length
      · have hli : (k : Int) < R.length := by omega
        obtain ⟨r, hr⟩ : ∃ r, R[k]? = some r := ⟨_, List.getElem?_eq_getElem hlt⟩
        obtain ⟨b, o, rfl, hcell⟩ := hMW.at (by omega)
        have c0 := hcell k r hr
        have hIr := (hMW.1 k r hr).2.2
        have hrm : r.t.length ≤ maxLen := Nat.le_trans (hMW.1 k r hr).1 (hMW.1 k r hr).2.1
        by_cases h200 : r.t.length ≤ 200
        · have h200' : ¬ (200 : Int) < r.t.length := by omega
          have Hn1 : Hid (∀ j r, j < k + 1 → R[j]? = some r → r.t.length ≤ 200) := fun j r' hj hr' => by
            by_cases e : j = k
            · subst e; rw [hr] at hr'; cases hr'; exact h200
            · exact Hn.out j r' (by omega) hr'
          have E1 := End_any r.q r.t r.c wr (by omega) hIr
          have E2 := fun W (hW : Below wr.heap.size wr W) => refEnd_any r.q r.t r.c W (by omega) (hIr.on hW)
          have HC : Hid (∀ W, Below wr.heap.size wr W → W.cell? ⟨b, o + k, none⟩ = some (.slice r.q r.t.length r.c)) := fun W hW => (hW.cell (p := ⟨b, o + k, none⟩) (World.block_lt_of_cell? wr _ c0)).trans c0
          clear hcell hr hMW hM Hn
          obtain ⟨rq, rt, rc⟩ := r
          dsimp only at c0 hIr h200 h200' E1 E2 HC hrm
          cases hE : endS (sgP 0 rt) with
          | none =>
            rw [hE] at E1 E2
            simp only [endV] at E1 E2
            clear hE
            go_wp2_with (first | (go_at_call 7; refine E1.mono ?_; rintro e W2 ⟨rfl, hb2⟩; have c2 := HC.out W2 hb2) | (go_at_call 8; refine (E2 _ hb2).mono ?_; rintro e W2 ⟨rfl, rfl⟩))
            go_roundw
            case rel => exact ⟨k + 1, by omega, by go_num, Hn1, hb.trans (hb2.mono hb.size)⟩
            case measure => simp [intOf]; omega
          | some e =>
            rw [hE] at E1 E2
            simp only [endV] at E1 E2
            clear hE
            go_wp2_with (first | (go_at_call 7; refine E1.mono ?_; rintro e W2 ⟨rfl, hb2⟩; have c2 := HC.out W2 hb2) | (go_at_call 8; refine (E2 _ hb2).mono ?_; rintro e W2 ⟨rfl, rfl⟩))
            go_roundw
            case rel => exact ⟨k + 1, by omega, by go_num, Hn1, hb.trans (hb2.mono hb.size)⟩
            case measure => simp [intOf]; omega
        · have h200' : (200 : Int) < r.t.length := by omega
          clear hcell hr hMW hM Hn
          obtain ⟨rq, rt, rc⟩ := r
          dsimp only at c0 hIr h200 h200' hrm
          go_wp2
          go_ret
          exact ⟨rfl, hb⟩
      · obtain rfl : k = R.length := by omega
        have hS : Shrt R := ⟨h40, fun j r hr => Hn.out j r (List.getElem?_eq_some_iff.1 hr).1 hr⟩
        have RD := Read_any p R cap wr hS.sized hMW
        have RF := fun W h => refRead_any p R cap W hS.sized h
        have hfl := Nat.le_trans (readS_len (flowT R)) hS.flow
        have SI := fun p q c d W => same_ints p q (readS (flowT R)) c d W (by omega)
        generalize readS (flowT R) = T at RD RF SI hfl
        clear Hn hS
        go_wp2_with (first | (go_at_call 10; refine RD.mono ?_; rintro e W4 ⟨v4, rfl, ho4, hb4⟩; obtain ⟨q4, c4, rfl, hI4⟩ := ho4.read) | (go_at_call 11; refine (RF _ (hMW.on hb4)).mono ?_; rintro e W5 ⟨v5, rfl, ho5, hb5⟩; obtain ⟨q5, c5, rfl, hI5⟩ := ho5.read) | (go_at_call 9; refine (SI _ _ _ _ _ (hI4.on hb5) hI5).mono ?_; rintro e W6 ⟨rfl, m6, rfl⟩))
        go_ret
        exact ⟨rfl, belowN ((hb.trans (hb4.mono hb.size)).trans (hb5.mono (Nat.le_trans hb.size hb4.size))) _⟩
  · have h40' : (40 : Int) < R.length := by omega
    have hm : (R.length : Int) ≤ 9223372036854775807 := by unfold maxLen at hl; omega
    go_enter Try.func3, Try.ntmps3
    go_wp2_with (first | (go_at_call 6; refine AL.mono ?_; rintro e W ⟨rfl, hB⟩))
    go_ret
    exact ⟨rfl, hB⟩
end Go.Proofs.Ytfblagepgflndaa
