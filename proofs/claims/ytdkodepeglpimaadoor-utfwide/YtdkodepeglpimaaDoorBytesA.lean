/- utf.Bytes, and the document's: UTF-8 of any ints. -/
import Derived.Test.YtdkodepeglpimaaDoorShelf
import Derived.Test.YtdkodepeglpimaaDoorPairs
import Derived.Test.YtdkodepeglpimaaDoorAlive
set_option linter.unusedVariables false
set_option linter.unusedSimpArgs false
namespace Go.Proofs.YtdkodepeglpimaaDoor
open Go.RowKit Go.Shelf

def fixP (c : Int) : Int := if okP c then c else 65533
theorem fixP_ok (c : Int) : okP (fixP c) = true := by
  unfold fixP
  split
  · assumption
  · decide
theorem okP_range {c : Int} (h : okP c = true) : 0 ≤ c ∧ c ≤ 1114111 ∧ (c < 55296 ∨ 57343 < c) := by unfold okP at h; simp at h; omega

set_option maxRecDepth 100000 in
set_option maxHeartbeats 400000 in
theorem isPoint_any (c : Int) (w : World) :
    Calls Tryd.prog 25 #[.int .i64 c] w fun e w' => e = .returned (.bool (okP c)) ∧ w' = w := by
  by_cases h0 : 0 ≤ c
  · by_cases h1 : c ≤ 1114111
    · have hh : okP c = !half c := by unfold okP half; rw [Bool.eq_iff_iff]; simp; omega
      rw [hh]
      cases hf : half c
      · go_enter Tryd.func25, Tryd.ntmps25
        go_wp2_with (go_at_call 32; refine (isHalf_any _ _).mono ?_; rintro e w' ⟨rfl, rfl⟩)
        go_ret
        exact ⟨ret_bool (by simp [hf]), rfl⟩
      · go_enter Tryd.func25, Tryd.ntmps25
        go_wp2_with (go_at_call 32; refine (isHalf_any _ _).mono ?_; rintro e w' ⟨rfl, rfl⟩)
        go_ret
        exact ⟨ret_bool (by simp [hf]), rfl⟩
    · have hk : okP c = false := by unfold okP; simp; omega
      rw [hk]
      clear hk
      go_enter Tryd.func25, Tryd.ntmps25
      go_wp2_with (go_at_call 32; refine (isHalf_any _ _).mono ?_; rintro e w' ⟨rfl, rfl⟩)
      go_ret
      exact ⟨rfl, rfl⟩
  · have hk : okP c = false := by unfold okP; simp; omega
    rw [hk]
    clear hk
    go_enter Tryd.func25, Tryd.ntmps25
    go_wp2_with (go_at_call 32; refine (isHalf_any _ _).mono ?_; rintro e w' ⟨rfl, rfl⟩)
    go_ret
    exact ⟨rfl, rfl⟩

def encZ (l : List Int) : List Int := l.flatMap fun c => Lib.encodeRuneZ (fixP c)
theorem encZ_take (l : List Int) (k : Nat) (h : k < l.length) : encZ (l.take (k + 1)) = encZ (l.take k) ++ Lib.encodeRuneZ (fixP (iAt l k)) := by
  have e : iAt l k = l[k] := by unfold iAt; simp [h]
  unfold encZ
  rw [List.take_succ_eq_append_getElem h, List.flatMap_append, e]
  simp
theorem enc_len (c : Int) : (Lib.encodeRuneZ c).length ≤ 4 := by
  unfold Lib.encodeRuneZ
  repeat' split
  all_goals simp
theorem encZ_len (l : List Int) : (encZ l).length ≤ 4 * l.length := by
  induction l with
  | nil => simp [encZ]
  | cons c t ih =>
    have e : encZ (c :: t) = Lib.encodeRuneZ (fixP c) ++ encZ t := rfl
    have := enc_len (fixP c)
    rw [e]
    simp
    omega

theorem rune_cells (c : Int) : Lib.runeCells c = (Lib.encodeRuneZ c).map (.int .u8) := rfl

set_option maxRecDepth 100000 in
set_option maxHeartbeats 1000000 in
theorem bytes_any (p : Option Addr) (l : List Int) (cap : Nat) (w : World) (hl : (l.length : Int) ≤ 1000) (h : Is w p l) (hpa : ∀ a, p = some a → 0 < l.length → a.block < w.heap.size) :
    Calls Tryd.prog 15 #[.slice p l.length cap] w fun e w' => ∃ v, e = .returned v ∧ w'.ownsRow w.heap.size 5 1 v (encZ l).length ((encZ l).map (.int .u8)) ∧ Below w.heap.size w w' := by
  go_enter Tryd.func15, Tryd.ntmps15
  go_wp2
  go_loopw [3, 8] (fun v i wr => ∃ k : Nat, k ≤ l.length ∧ i = .int .i64 k ∧ wr.ownsRow w.heap.size 5 1 v (encZ (l.take k)).length ((encZ (l.take k)).map (.int .u8)) ∧ Below w.heap.size w wr) (fun _ i _ => l.length - (intOf i).toNat)
  case atStart => exact ⟨0, Nat.zero_le _, rfl, World.ownsRow_nil _ _ _ _, Below.refl _ _⟩
  case round =>
    obtain ⟨k, hk, rfl, hrow, hB⟩ := hrel
    have hBs := hB.size
    by_cases hlt : k < l.length
    · obtain ⟨b, o, rfl, hcl⟩ := h.at (by omega)
      have q0 : wr.cell? ⟨b, o + k, none⟩ = some (.int .i64 (iAt l k)) := (hB.cell (p := ⟨b, o + k, none⟩) (hpa ⟨b, o, none⟩ rfl (by omega))).trans (hcl k hlt)
      have hE := encZ_take l k hlt
      have hn := encZ_len (l.take k)
      rw [List.length_take] at hn
      have hf := okP_range (fixP_ok (iAt l k))
      generalize iAt l k = c at q0 hE hf
      obtain ⟨f, hF⟩ : ∃ f, fixP c = f := ⟨_, rfl⟩
      rw [hF] at hE hf
      obtain ⟨f0, f1, -⟩ := hf
      have A := Tryd.utf8_AppendRune_plain w.heap.size u3 (encZ (l.take k)).length ((encZ (l.take k)).map (.int .u8)) f (by omega) (by omega) wr hrow (by omega) hBs
      rw [rune_cells, ← List.map_append, ← hE, List.length_map, ← List.length_append, ← hE] at A
      have hlt2 := hrow.lt
      clear hcl h hrow hE hn
      cases ho : okP c
      · obtain rfl : f = 65533 := by rw [← hF]; unfold fixP; rw [ho]; rfl
        clear hF
        go_wp2_with (first | (go_at_call 25; refine (isPoint_any _ _).mono ?_; rintro e w' ⟨rfl, rfl⟩) | (go_at_call 26; refine A.mono ?_; rintro e w1 ⟨v', rfl, ho', oo, hg⟩))
        go_roundw
        case rel => exact ⟨k + 1, by omega, by go_num, ho', (hB.alloc hBs _).grown hg (by simp; omega) (fun j e => (hlt2 j e).1)⟩
        case measure => simp [intOf]; omega
      · obtain rfl : c = f := by rw [← hF]; unfold fixP; rw [ho]; rfl
        clear hF
        go_wp2_with (first | (go_at_call 25; refine (isPoint_any _ _).mono ?_; rintro e w' ⟨rfl, rfl⟩) | (go_at_call 26; refine A.mono ?_; rintro e w1 ⟨v', rfl, ho', oo, hg⟩))
        go_roundw
        case rel => exact ⟨k + 1, by omega, by go_num, ho', (hB.alloc hBs _).grown hg (by simp; omega) (fun j e => (hlt2 j e).1)⟩
        case measure => simp [intOf]; omega
    · obtain rfl : k = l.length := by omega
      rw [List.take_length] at hrow
      go_wp2
      go_ret
      exact ⟨_, rfl, hrow, hB⟩
end Go.Proofs.YtdkodepeglpimaaDoor
