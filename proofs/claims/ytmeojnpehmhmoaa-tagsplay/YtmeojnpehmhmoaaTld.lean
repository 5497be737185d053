/- told: what a Scope was told of a handle. -/
import Derived.Test.YtmeojnpehmhmoaaBsf
import Derived.Test.YtmeojnpehmhmoaaWho
set_option linter.all false
set_option maxRecDepth 100000
namespace Go.Proofs.Ytmeojnpehmhmoaa
open Go.RowKit

def rAt (R : List (List Mn)) (i : Nat) : List Mn := R[i]?.getD []
theorem rAt_get {R : List (List Mn)} {i : Nat} (h : i < R.length) : rAt R i = R[i] := by unfold rAt; rw [List.getElem?_eq_getElem h]; rfl
theorem rAt_mem {R : List (List Mn)} {i : Nat} (h : i < R.length) : rAt R i ∈ R := by rw [rAt_get h]; exact List.getElem_mem h
/-- A row of rows in memory. -/
def Rws (w : World) (p : Option Addr) (R : List (List Mn)) : Prop :=
  R = [] ∨ ∃ g, p = some ⟨g, 0, none⟩ ∧ ∀ i, i < R.length → ∃ gi ci, w.cell? ⟨g, i, none⟩ = some (.slice (some ⟨gi, 0, none⟩) (rAt R i).length ci) ∧ (rAt R i).length ≤ ci ∧ Mr w gi (rAt R i)
/-- What is asked of the rows themselves. -/
structure Rok (R : List (List Mn)) : Prop where
  n : R.length ≤ 100
  l : ∀ r ∈ R, r.length ≤ 1000
  s : ∀ r ∈ R, Srt r
theorem Rws.on {A B : World} {p : Option Addr} {R : List (List Mn)} (h : Rws A p R) (hn : ∀ r ∈ R, 0 < r.length) (hb : Below A.heap.size A B) : Rws B p R := by
  rcases h with e | ⟨g, rfl, h⟩
  · exact .inl e
  · refine .inr ⟨g, rfl, fun i hi => ?_⟩
    obtain ⟨gi, ci, h1, h2, h3⟩ := h i hi
    exact ⟨gi, ci, (hb.cell (p := ⟨g, i, none⟩) (World.block_lt_of_cell? A _ h1)).trans h1, h2, h3.on hb⟩
theorem inRows_drop {R : List (List Mn)} {i : Nat} (hi : i < R.length) (h : ByteArray) : inRows (R.drop i) h = (inRow (rAt R i) h).or (inRows (R.drop (i + 1)) h) := by
  rw [List.drop_eq_getElem_cons hi, inRows_cons, rAt_get hi]

set_option maxHeartbeats 1600000 in
theorem told_any (b cap : Nat) (p : Option Addr) (R : List (List Mn)) (h : ByteArray) (w : World) (hc : w.cell? ⟨b, 0, none⟩ = some (.slice p R.length cap)) (hcap : R.length ≤ cap) (hR : Rws w p R) (hk : Rok R) (hn : ∀ r ∈ R, 0 < r.length) :
    Calls Try.prog 14 #[.pointer (some ⟨b, 0, none⟩), .string h] w fun e w' => e = .returned (optV (inRows R h)) ∧ Below w.heap.size w w' := by
  have hl := hk.n
  obtain ⟨A, hA⟩ : ∃ A, optV (inRows R h) = A := ⟨_, rfl⟩
  rw [hA]
  have HA : Hid (optV (inRows R h) = A) := hA
  clear hA
  go_enter Try.func14, Try.ntmps14
  go_wp2
  go_loopw [15] (fun ri wr => ∃ i : Nat, i ≤ R.length ∧ ri = .int .i64 i ∧ Hid (inRows (R.drop i) h = inRows R h) ∧ Below w.heap.size w wr) (fun ri _ => R.length - (RowKit.intOf ri).toNat)
  case atStart => exact ⟨0, Nat.zero_le _, rfl, rfl, Below.refl _ _⟩
  case round =>
    obtain ⟨i, hi, rfl, h1, hB⟩ := hrel
    by_cases hlt : i < R.length
    · rcases hR.on hn hB with e | ⟨g, rfl, hg⟩
      · subst e; simp at hlt
      obtain ⟨gi, ci, c1, hci, hM⟩ := hg i hlt
      have SR := search_any gi ci (rAt R i) h wr (hk.l _ (rAt_mem hlt)) hci (hk.s _ (rAt_mem hlt)) hM
      have h2 := inRows_drop hlt h
      clear hg
      have hlt' : (i : Int) < R.length := by omega
      cases ho : inRow (rAt R i) h with
      | none =>
        rw [ho] at SR h2
        simp only [Option.isSome, Bool.false_eq_true, false_implies, true_and] at SR
        have HN : Hid (inRows (R.drop (i + 1)) h = inRows R h) := by
          show _ = _
          rw [← h1.out, h2]
          rfl
        clear h1 h2 ho hM
        generalize rAt R i = row at *
        go_wp2_with (first | (go_at_call 31; refine SR.mono ?_; rintro e w' ⟨k, hk2, rfl, hb⟩))
        go_roundw
        case rel => exact ⟨i + 1, by omega, by go_num, HN.out, hB.trans (hb.mono hB.size)⟩
        case measure => simp [RowKit.intOf]; omega
      | some q =>
        rw [ho] at SR h2
        simp only [Option.isSome, true_implies] at SR
        have HN : Hid (optV (some q) = A) := by
          show _ = _
          rw [← HA.out, ← h1.out, h2]
          rfl
        clear h1 h2 ho
        have hrl := hk.l _ (rAt_mem hlt)
        generalize rAt R i = row at *
        unfold optV at HN
        simp only [Option.getD, Option.isSome] at HN
        go_wp2_with (first | (go_at_call 31; refine SR.mono ?_; rintro e w' ⟨k, hk2, rfl, ⟨hk3, hk4⟩, hb⟩; obtain ⟨-, c3⟩ := (hM.on hb) k hk3; have hk3' : (k : Int) < row.length := by omega))
        go_ret2
        injection hk4 with hk4
        refine ⟨?_, hB.trans (hb.mono hB.size)⟩
        rw [← HN.out, hk4]
        rfl
    · obtain rfl : i = R.length := by omega
      have HN : Hid (optV none = A) := by
        show _ = _
        rw [← HA.out, ← h1.out, List.drop_length]
        rfl
      clear h1 hR
      unfold optV at HN
      simp only [Option.getD, Option.isSome] at HN
      go_wp2
      go_ret2
      exact ⟨by rw [← HN.out]; rfl, hB⟩
end Go.Proofs.Ytmeojnpehmhmoaa
