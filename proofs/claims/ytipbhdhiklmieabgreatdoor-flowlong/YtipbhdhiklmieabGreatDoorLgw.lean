/- FlowLong's walk. -/
import Derived.Test.YtipbhdhiklmieabGreatDoorLgb
import Derived.Test.YtipbhdhiklmieabGreatDoorLgk
import Derived.Laws.Concat
set_option linter.unusedVariables false
set_option linter.unusedSimpArgs false
set_option maxRecDepth 100000
set_option maxHeartbeats 8000000
namespace Go.Proofs.YtipbhdhiklmieabGreatDoor
open Go.RowKit Go.Shelf
open P3 (badP)
theorem addS (a b : ByteArray) (ha : a.size ≤ 2000) (hb : b.size ≤ 2000) (w : World) : (Op.stringOp .add a b).run Tryz.prog w = .ok (.string (a ++ b)) w := run_string_add_sum w a b (by omega)
theorem apZ (a b : ByteArray) : (a ++ b).size = a.size + b.size := ByteArray.size_append ..
theorem bI_app (a b : ByteArray) : bI (a ++ b) = bI a ++ bI b := by
  unfold bI
  rw [ByteArray.data_append]
  simp
def repS (a : ByteArray) : Nat → ByteArray
  | 0 => ⟨#[]⟩
  | k + 1 => repS a k ++ a
theorem repS_size (a : ByteArray) : ∀ k, (repS a k).size = k * a.size
  | 0 => by rw [Nat.zero_mul]; rfl
  | k + 1 => by rw [repS, apZ, repS_size a k, Nat.succ_mul]
theorem repS_one (c : UInt8) : ∀ k, bI (repS ⟨#[c]⟩ k) = List.replicate k (c.toNat : Int)
  | 0 => rfl
  | k + 1 => by rw [repS, bI_app, repS_one c k, List.replicate_succ']; rfl
def keyT (n : Nat) : List Int := List.replicate n 120 ++ [58, 32, 98]
theorem key_text (n : Nat) : bI (repS ⟨#[120]⟩ n ++ ⟨#[58, 32, 98]⟩) = keyT n := by
  rw [bI_app, repS_one]
  rfl
theorem brk_text (n : Nat) : bI (⟨#[91]⟩ ++ repS ⟨#[120]⟩ n ++ ⟨#[58, 32, 98, 93]⟩) = lngT 91 n 93 := by
  rw [bI_app, bI_app, repS_one]
  rfl
theorem brc_text (n : Nat) : bI (⟨#[123]⟩ ++ repS ⟨#[120]⟩ n ++ ⟨#[58, 32, 98, 125]⟩) = lngT 123 n 125 := by
  rw [bI_app, bI_app, repS_one]
  rfl
theorem key_len (n : Nat) : (keyT n).length = n + 3 := by unfold keyT; simp
theorem key_mem {n : Nat} {x : Int} (h : x ∈ keyT n) : x = 120 ∨ x = 58 ∨ x = 32 ∨ x = 98 := by
  rcases List.mem_append.1 (show x ∈ List.replicate n 120 ++ [58, 32, 98] from h) with h | h
  · exact .inl (List.mem_replicate.1 h).2
  · simp at h
    omega
theorem key_at (n : Nat) : (∀ j, j < n → iAt (keyT n) j = 120) ∧ iAt (keyT n) n = 58 ∧ iAt (keyT n) (n + 1) = 32 :=
  ⟨fun j hj => (rep_at n _ j).1 hj, (rep_at n _ 0).2, (rep_at n _ 1).2⟩
/-- Signs that a text of lines may have. -/
def Six (x : Int) : Prop := x = 91 ∨ x = 93 ∨ x = 123 ∨ x = 125 ∨ x = 120 ∨ x = 58 ∨ x = 32 ∨ x = 98
theorem six_ok {t : List Int} (h : ∀ x, x ∈ t → Six x) : Asc t ∧ t.any badP = false ∧ ∀ j, j < t.length → iAt t j ≠ 13 ∧ P3.endP (iAt t j) = false := by
  refine ⟨fun x hx => ?_, ?_, fun j hj => ?_⟩
  · have := h x hx
    unfold Six at this
    omega
  · rw [List.any_eq_false]
    intro x hx
    have := h x hx
    rcases this with rfl | rfl | rfl | rfl | rfl | rfl | rfl | rfl <;> decide
  · have := h _ (iAt_mem hj)
    rcases this with e | e | e | e | e | e | e | e <;> rw [e] <;> decide
theorem lng_six {c e : Int} (n : Nat) (hc : c = 91 ∨ c = 123) (he : e = 93 ∨ e = 125) : ∀ x, x ∈ lngT c n e → Six x := fun x hx => by
  have := lng_mem hx
  unfold Six
  omega
theorem key_six (n : Nat) : ∀ x, x ∈ keyT n → Six x := fun x hx => by
  have := key_mem hx
  unfold Six
  omega
theorem key_one (n : Nat) (hn : 0 < n) : lpsO (keyT n) = one (keyT n) :=
  lps_one (by rw [key_len]; omega) (fun j hj => ((six_ok (key_six n)).2.2 j hj).2) (by rw [(key_at n).1 0 hn]; decide)
/-- The lines of such a text. -/
theorem Lines_six (s : ByteArray) {t : List Int} (h : bI s = t) (hs : s.size ≤ 1250) (ht : ∀ x, x ∈ t → Six x) (w : World) : Calls Tryz.prog 8 #[.string s] w fun e w' => ∃ p n c, e = .returned (.slice p n c) ∧ Got w' p n t ∧ Below w.heap.size w w' := by
  subst h
  obtain ⟨h1, h2, h3⟩ := six_ok ht
  refine (Lines_any s (by omega) h1 h2 (fun j hj => (h3 j hj).1) w).mono ?_
  rintro e w' ⟨p, M, c, rfl, hls, hmp, -, -, hb⟩
  exact ⟨p, M.length, c, rfl, ⟨M, rfl, hls, hmp⟩, hb⟩
/-- Key of the third text. -/
theorem Key_rdy {w : World} {rb n : Nat} (hn : 0 < n) (hn2 : n ≤ 1100) (h : Rdy w rb (keyT n)) (hT : P7.Tab w) :
    Calls Tryz.prog 12 #[.pointer (some ⟨rb, 0, none⟩), .int .i64 0, .int .i64 0] w fun en w' => en = .returned (.tuple #[.int .i64 (if n > 1024 then 0 else (n : Nat)), .bool (decide (n ≤ 1024))]) ∧ Below w.heap.size w w' := by
  obtain ⟨g, M, h1, h2, h3⟩ := h
  rw [key_one n hn] at h3
  obtain ⟨x, rfl⟩ : ∃ x, M = [x] := by
    have : M.length = 1 := by rw [← List.length_map (f := Ln.lp), h3]; rfl
    exact List.length_eq_one_iff.1 this
  have hx : x.lp = ⟨0, keyT n⟩ := by
    have : [x.lp] = [(⟨0, keyT n⟩ : Lp)] := h3
    exact (List.cons.inj this).1
  obtain ⟨a1, a2, a3⟩ := key_at n
  have hl := key_len n
  exact Key_one h1 h2 hx (by omega) hT (key_wd false hn (by omega) (fun j hj => by rw [Nat.zero_add]; exact a1 j hj) (by rw [Nat.zero_add]; exact a2) (by rw [Nat.zero_add]; exact a3)) a2 a3 (by omega)
theorem long_sum (n : Nat) (hn : 0 < n) : ∃ f i k ev e, ansW (lngT 91 n 93) 0 f = some (e, i, k, ev) ∧ (n > 1024 ∧ e = 2 ∧ ev.length = 0 ∨ n ≤ 1024 ∧ e = 0 ∧ ev.length = 6) := by
  obtain ⟨a, b⟩ := long_brk n hn
  by_cases h : n > 1024
  · obtain ⟨f, hf⟩ := a h
    exact ⟨f, _, _, _, _, hf, .inl ⟨h, rfl, rfl⟩⟩
  · obtain ⟨f, i, k, ev, hf, h6⟩ := b (by omega)
    exact ⟨f, _, _, _, _, hf, .inr ⟨by omega, rfl, h6⟩⟩
end Go.Proofs.YtipbhdhiklmieabGreatDoor
