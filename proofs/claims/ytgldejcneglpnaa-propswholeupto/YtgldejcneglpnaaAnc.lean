/- Anchor, and the document's own; pieces of a list of ints. -/
import Derived.Test.YtgldejcneglpnaaSgs
import Derived.Test.YtgldejcneglpnaaBase
import Derived.OwnWalk
set_option linter.unusedVariables false
set_option linter.unusedSimpArgs false
namespace Go.Proofs.Ytgldejcneglpnaa
open Go.RowKit Go.Shelf

theorem slice_mid (b o len cap m e : Nat) (h1 : m ≤ e) (h2 : e ≤ cap) (hc : m < cap) (w2 : World) :
    (Instr.slice 22 (.slice (some ⟨b, o, none⟩) len cap) (some (.int .i64 m)) (some (.int .i64 e)) none).run Try.prog w2 = .ok (.slice (some ⟨b, o + m, none⟩) (e - m) (cap - m)) w2 := by
  have h0 : (m : Int) ≤ e := by omega
  have h3 : (e : Int) ≤ cap := by omega
  have h4 : ¬ cap = m := by omega
  have u := Try.underlying22
  have z := Try.sizeOf3
  simp [go_sem, h0, h3, h4, add_plain]

/-- A text, a number, and whether there is one. -/
def triV (s : ByteArray) (n : Nat) (ok : Bool) : Value := .tuple #[.string s, .int .i64 n, .bool ok]
def ancV (t : List Int) : Value := triV (txt (t.take (cnt nameP t))) (cnt nameP t) (decide (0 < cnt nameP t))

theorem is_take {w : World} {q : Option Addr} {t : List Int} (h : Is w q t) (k : Nat) : Is w q (t.take k) := h.take k

set_option maxRecDepth 100000 in
set_option maxHeartbeats 1000000 in
theorem Anchor_any (q : Option Addr) (t : List Int) (n c : Nat) (w : World) (hl : n = t.length) (hn : t.length ≤ 1000000) (hc : t.length ≤ c) (hm : c ≤ maxLen) (hI : Is w q t) :
    Calls Try.prog 9 #[.slice q n c] w fun e w' => e = .returned (ancV t) ∧ Below w.heap.size w w' := by
  have CN := count_name q t n c w hl (by omega) hI
  subst hl
  unfold ancV triV
  have hE := cnt_le nameP t
  have hS := slice_to q t.length c (cnt nameP t) (by omega)
  have TX := text_any q (t.take (cnt nameP t)) (cnt nameP t) c w (by simp; omega) (by simp; omega) (hI.take _)
  generalize txt (t.take (cnt nameP t)) = s at TX ⊢
  generalize cnt nameP t = E at *
  by_cases h0 : 0 < E
  · rw [decide_eq_true h0]
    have h0' : (0 : Int) < E := by omega
    go_enter Try.func9, Try.ntmps9
    go_wp2_with (first | (go_at_call 21; refine CN.mono ?_; rintro e w ⟨rfl, rfl⟩) | (go_at_call 23; refine TX.mono ?_; rintro e W ⟨rfl, hB⟩))
    go_ret3
    exact ⟨rfl, hB⟩
  · rw [decide_eq_false h0]
    have h0' : ¬ (0 : Int) < E := by omega
    go_enter Try.func9, Try.ntmps9
    go_wp2_with (first | (go_at_call 21; refine CN.mono ?_; rintro e w ⟨rfl, rfl⟩) | (go_at_call 23; refine TX.mono ?_; rintro e W ⟨rfl, hB⟩))
    go_ret3
    exact ⟨rfl, hB⟩

set_option maxRecDepth 100000 in
set_option maxHeartbeats 1000000 in
theorem rAnchor_any (q : Option Addr) (t : List Int) (n c : Nat) (w : World) (hl : n = t.length) (hn : t.length ≤ 1000000) (hc : t.length ≤ c) (hm : c ≤ maxLen) (hI : Is w q t) :
    Calls Try.prog 10 #[.slice q n c] w fun e w' => e = .returned (ancV t) ∧ Below w.heap.size w w' := by
  subst hl
  obtain ⟨V, hV⟩ : ∃ V, ancV t = V := ⟨_, rfl⟩
  rw [hV]
  unfold ancV triV at hV
  have HV : Hid _ := hV
  clear hV
  have hE := cnt_le nameP t
  have hn2 : (t.length : Int) ≤ 1000000 := by omega
  have hS := slice_to q t.length c (cnt nameP t) (by omega)
  have BY := refBytes_any q (t.take (cnt nameP t)) c w (by simp; omega) (hI.take _) (fun a h _ => hI.lt a h (by simp at *; omega))
  rw [show (t.take (cnt nameP t)).length = cnt nameP t by simp; omega] at BY
  have HS : Hid (∀ (w1 : World) v, w1.ownsRow w.heap.size 5 1 v (encZ (t.take (cnt nameP t))).length ((encZ (t.take (cnt nameP t))).map (.int .u8)) → (convert 33 9 v).run Try.prog w1 = .ok (.string (txt (t.take (cnt nameP t)))) w1) := fun w1 v h => own_string h (encZ_byte _)
  have HZ : Hid (cnt nameP t = 0 → txt (t.take (cnt nameP t)) = ⟨#[]⟩) := fun h => by rw [h, List.take_zero]; rfl
  generalize hE2 : cnt nameP t = E at *
  have HE2 : Hid (cnt nameP t = E) := hE2
  clear hE2
  generalize encZ (t.take E) = Z at *
  generalize txt (t.take E) = s at *
  go_enter Try.func10, Try.ntmps10
  go_wp2
  go_loop [5] (fun iv => ∃ (k : Nat), k ≤ t.length ∧ iv = .int .i64 k ∧ Hid (runE (st nameP t) t.length k = cnt nameP t)) (fun iv => t.length - (intOf iv).toNat)
  case atStart => exact ⟨0, by omega, rfl, rfl⟩
  case round =>
    obtain ⟨k, hk, rfl, HE⟩ := hrel
    have fin : Hid (k = E → k = E) := fun h => h
    by_cases hlt : k < t.length
    · have hli : (k : Int) < t.length := by omega
      obtain ⟨b, o, rfl, hu⟩ := hI.at (by omega)
      have c0 := hu k hlt
      have KD := rname_any (iAt t k)
      cases hz : nameP (iAt t k) with
      | true =>
        rw [hz] at KD
        have HN : Hid (runE (st nameP t) t.length (k + 1) = cnt nameP t) := cnt_next hlt hz HE.out
        generalize iAt t k = x at c0 KD
        clear hu hI hz HE
        go_wp2_with (first | (go_at_call 24; refine (KD _).mono ?_; rintro e w ⟨rfl, rfl⟩))
        go_round
        case rel => exact ⟨k + 1, by omega, by go_num, HN⟩
        case measure => simp [intOf]; omega
      | false =>
        rw [hz] at KD
        have hkE : k = E := (cnt_of (.inr ⟨hlt, hz⟩) HE.out).trans HE2.out
        subst hkE
        generalize iAt t k = x at c0 KD
        clear hu hI hz HE
        by_cases h0 : 0 < k
        · have hV := HV.out
          rw [decide_eq_true h0] at hV
          subst hV
          have h0' : ((k : Int) == 0) = false := by simp; omega
          go_wp2_with (first | (go_at_call 24; refine (KD _).mono ?_; rintro e w ⟨rfl, rfl⟩) | (go_at_call 19; refine BY.mono ?_; rintro e w1 ⟨v, rfl, ho, hB⟩; have HS2 := HS.out _ _ ho))
          go_ret3
          exact ⟨rfl, hB⟩
        · obtain rfl : k = 0 := by omega
          have hV := HV.out
          rw [decide_eq_false h0, HZ.out rfl] at hV
          subst hV
          have e0 : ((0 : Nat) : Int) = 0 := rfl
          rw [e0] at hli
          rw [e0]
          rw [Nat.add_zero] at c0
          go_wp2_with (first | (go_at_call 24; refine (KD _).mono ?_; rintro e w ⟨rfl, rfl⟩))
          go_ret3
          exact ⟨rfl, Below.refl _ _⟩
    · have hge : ¬ (k : Int) < t.length := by omega
      have hkE : t.length = E := by
        obtain rfl : k = t.length := by omega
        exact (cnt_of (.inl rfl) HE.out).trans HE2.out
      obtain rfl : k = E := by omega
      clear hI HE
      by_cases h0 : 0 < k
      · have hV := HV.out
        rw [decide_eq_true h0] at hV
        subst hV
        have h0' : ((k : Int) == 0) = false := by simp; omega
        clear hkE
        go_wp2_with (first | (go_at_call 19; refine BY.mono ?_; rintro e w1 ⟨v, rfl, ho, hB⟩; have HS2 := HS.out _ _ ho))
        go_ret3
        exact ⟨rfl, hB⟩
      · obtain rfl : k = 0 := by omega
        have hV := HV.out
        rw [decide_eq_false h0, HZ.out rfl] at hV
        subst hV
        have e0 : ((0 : Nat) : Int) = 0 := rfl
        rw [e0]
        rw [hkE] at hge ⊢
        go_wp2
        go_ret3
        exact ⟨rfl, Below.refl _ _⟩
end Go.Proofs.Ytgldejcneglpnaa
