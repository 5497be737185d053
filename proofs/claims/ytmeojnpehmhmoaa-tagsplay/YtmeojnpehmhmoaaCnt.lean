/- props.count with each kind that it is called with; the text of code points. -/
import Derived.Test.YtmeojnpehmhmoaaSml
import Derived.Test.YtmeojnpehmhmoaaByt
import Derived.Laws.IdiomStrings
import Derived.Lib.BufferRead
set_option linter.unusedVariables false
set_option linter.unusedSimpArgs false
namespace Go.Proofs.Ytmeojnpehmhmoaa
open Go.RowKit Go.Shelf

theorem cnt_of {P : Int → Bool} {t : List Int} {k : Nat} (h : k = t.length ∨ (k < t.length ∧ P (iAt t k) = false)) (hr : runE (st P t) t.length k = cnt P t) : k = cnt P t := by
  rw [← hr, runE_stop]
  rcases h with rfl | ⟨h1, h2⟩
  · exact st_none (fun h => by omega)
  · exact st_none (fun _ => h2)
theorem cnt_next {P : Int → Bool} {t : List Int} {k : Nat} (h1 : k < t.length) (h2 : P (iAt t k) = true) (hr : runE (st P t) t.length k = cnt P t) : runE (st P t) t.length (k + 1) = cnt P t := by
  have h3 := st_one h1 h2
  have := runE_step (L := t.length) (st_bd P t) (k := k) (by rw [h3]; omega)
  rw [h3] at this
  rw [this, hr]

set_option maxRecDepth 100000 in
set_option maxHeartbeats 1000000 in
theorem count_word (q : Option Addr) (t : List Int) (n c : Nat) (w : World) (hl : n = t.length) (hn : t.length ≤ 1099511627776) (hI : Is w q t) :
    Calls Try.prog 80 #[.slice q n c, .func (.func 44) #[] #[]] w fun e w' => e = .returned (.int .i64 (cnt wordP t : Nat)) ∧ w' = w := by
  subst hl
  obtain ⟨E, hE⟩ : ∃ E, cnt wordP t = E := ⟨_, rfl⟩
  rw [hE]
  have HS : Hid (cnt wordP t = E) := hE
  have hn2 : (t.length : Int) ≤ 1099511627776 := by omega
  clear hE
  go_enter Try.func80, Try.ntmps80
  go_wp2
  go_loop [9] (fun iv => ∃ (k : Nat), k ≤ t.length ∧ iv = .int .i64 k ∧ Hid (runE (st wordP t) t.length k = cnt wordP t)) (fun iv => t.length - (intOf iv).toNat)
  case atStart => exact ⟨0, by omega, rfl, rfl⟩
  case round =>
    obtain ⟨k, hk, rfl, HE⟩ := hrel
    by_cases hlt : k < t.length
    · have hli : (k : Int) < t.length := by omega
      obtain ⟨b, o, rfl, hu⟩ := hI.at (by omega)
      have c0 := hu k hlt
      have KD := word_any (iAt t k)
      cases hz : wordP (iAt t k) with
      | true =>
        rw [hz] at KD
        have HN : Hid (runE (st wordP t) t.length (k + 1) = cnt wordP t) := cnt_next hlt hz HE.out
        generalize iAt t k = x at c0 KD
        clear hu hI hz HE HS
        go_wp2_with (first | (go_at_call 44; refine (KD _).mono ?_; rintro e w ⟨rfl, rfl⟩))
        go_round
        case rel => exact ⟨k + 1, by omega, by go_num, HN⟩
        case measure => simp [intOf]; omega
      | false =>
        rw [hz] at KD
        have hkE : k = E := (cnt_of (.inr ⟨hlt, hz⟩) HE.out).trans HS.out
        subst hkE
        generalize iAt t k = x at c0 KD
        clear hu hI hz HE HS
        go_wp2_with (first | (go_at_call 44; refine (KD _).mono ?_; rintro e w ⟨rfl, rfl⟩))
        go_ret
        exact ⟨rfl, rfl⟩
    · have hge : ¬ (k : Int) < t.length := by omega
      have hkE : t.length = E := by
        obtain rfl : k = t.length := by omega
        exact (cnt_of (.inl rfl) HE.out).trans HS.out
      subst hkE
      go_wp2
      go_ret
      exact ⟨rfl, rfl⟩

/-- Bytes of the call's own. -/
abbrev OwnB (w : World) (base : Nat) (v : Value) (t : List Int) : Prop := w.ownsRow base 5 1 v t.length (t.map (.int .u8))
def strB (L : List Int) : ByteArray := ⟨(L.map fun x => UInt8.ofNat x.toNat).toArray⟩

theorem own_string {B : Nat} {w : World} {v : Value} {L : List Int} (h : OwnB w B v L) (hL : ∀ x ∈ L, 0 ≤ x ∧ x < 256) :
    (convert 69 9 v).run Try.prog w = .ok (.string (strB L)) w := by
  obtain ⟨h0, ⟨rfl, h1⟩ | ⟨g, cap, cur, rfl, -⟩⟩ := id h
  · have : L = [] := List.eq_nil_of_length_eq_zero (by omega)
    subst this
    exact Lib.run_convert_nil_bytes w _ _ _ 0 Try.underlying69 Try.underlying5 Try.underlying9
  · have := run_convert_bytes_back (P := Try.prog) w 69 9 5 ⟨g, 0, none⟩ cap (L.map fun x => UInt8.ofNat x.toNat) Try.underlying69 Try.underlying5 Try.underlying9 (fun j hj => by
      have hj' : j < L.length := by simpa using hj
      have := h.cells (g := g) rfl j (.int .u8 L[j]) (by simp [hj'])
      rw [this]
      have := hL _ (List.getElem_mem hj')
      simp
      omega)
    rw [List.length_map] at this
    exact this

/-- The text of code points. -/
def txt (t : List Int) : ByteArray := strB (encZ t)
theorem txt_nil : txt [] = ⟨#[]⟩ := rfl

set_option maxRecDepth 100000 in
set_option maxHeartbeats 1000000 in
theorem text_any (q : Option Addr) (t : List Int) (n c : Nat) (w : World) (hl : n = t.length) (hn : t.length ≤ 1000000) (hI : Is w q t) :
    Calls Try.prog 64 #[.slice q n c] w fun e w' => e = .returned (.string (txt t)) ∧ Below w.heap.size w w' := by
  subst hl
  have BY := bytes_any q t c w (by omega) hI hI.lt
  go_enter Try.func64, Try.ntmps64
  go_wp2_with (first | (go_at_call 83; refine BY.mono ?_; rintro e w1 ⟨v, rfl, ho, hB⟩; have HS := own_string ho (encZ_byte t)))
  go_ret
  exact ⟨rfl, hB⟩

end Go.Proofs.Ytmeojnpehmhmoaa
