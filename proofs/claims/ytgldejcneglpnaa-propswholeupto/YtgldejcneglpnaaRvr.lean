/- The document's Past, count, tail and version. -/
import Derived.Test.YtgldejcneglpnaaPrt
import Derived.Deep.Quiet
set_option linter.unusedVariables false
set_option linter.unusedSimpArgs false
namespace Go.Proofs.Ytgldejcneglpnaa
open Go.RowKit Go.Shelf

theorem results_tmp4 {fn : Func} {t u v x : Tmp} (h : fn.results = #[.tmp t, .tmp u, .tmp v, .tmp x]) (tmps : Array Value) (P : Program) (w : World) :
    (results fn tmps).run P w = .ok (.tuple #[tmps.getD t undef, tmps.getD u undef, tmps.getD v undef, tmps.getD x undef]) w := by
  simp [results, h]
/-- The worlds that hold all that V holds. -/
structure KinT (V : World) where
  val : World
  property : Below V.heap.size V val
theorem kin_call {P : Program} {V : World} {n : KinT V} {f : FuncId} {args : Array Value} {v : Value} (h : Calls P f args n.val fun e w2 => e = .returned v ∧ Below n.val.heap.size n.val w2) :
    Calls P f args n.val fun e w'' => e = .returned v ∧ ∃ m : KinT V, w'' = m.val :=
  h.mono fun e w2 ⟨he, hb⟩ => ⟨he, ⟨w2, n.property.trans (hb.mono n.property.size)⟩, rfl⟩

/-- Three texts, and whether there is a directive. -/
def dirV : Option (ByteArray × ByteArray × ByteArray) → Value
  | none => .tuple #[.string ⟨#[]⟩, .string ⟨#[]⟩, .string ⟨#[]⟩, .bool false]
  | some (a, b, c) => .tuple #[.string a, .string b, .string c, .bool true]
theorem dirV_none : dirV none = .tuple #[.string ⟨#[]⟩, .string ⟨#[]⟩, .string ⟨#[]⟩, .bool false] := rfl
theorem dirV_some (a b c : ByteArray) : dirV (some (a, b, c)) = .tuple #[.string a, .string b, .string c, .bool true] := rfl
abbrev yamlB : ByteArray := ⟨#[89, 65, 77, 76]⟩
abbrev tagB : ByteArray := ⟨#[84, 65, 71]⟩

set_option maxRecDepth 100000 in
set_option maxHeartbeats 1000000 in
theorem Past_any (q : Option Addr) (t : List Int) (n c : Nat) (w : World) (hl : n = t.length) (hn : t.length ≤ 1099511627776) (hI : Is w q t) :
    Calls Try.prog 56 #[.slice q n c] w fun e w' => e = .returned (.int .i64 (cnt blankP t : Nat)) ∧ w' = w := by
  subst hl
  obtain ⟨E, hE⟩ : ∃ E, cnt blankP t = E := ⟨_, rfl⟩
  rw [hE]
  have HS : Hid (cnt blankP t = E) := hE
  have hn2 : (t.length : Int) ≤ 1099511627776 := by omega
  clear hE
  go_enter Try.func56, Try.ntmps56
  go_wp2
  go_loop [3] (fun iv => ∃ (k : Nat), k ≤ t.length ∧ iv = .int .i64 k ∧ Hid (runE (st blankP t) t.length k = cnt blankP t)) (fun iv => t.length - (intOf iv).toNat)
  case atStart => exact ⟨0, by omega, rfl, rfl⟩
  case round =>
    obtain ⟨k, hk, rfl, HE⟩ := hrel
    by_cases hlt : k < t.length
    · have hli : (k : Int) < t.length := by omega
      obtain ⟨b, o, rfl, hu⟩ := hI.at (by omega)
      have c0 := hu k hlt
      have KD := rblank_any (iAt t k)
      cases hz : blankP (iAt t k) with
      | true =>
        rw [hz] at KD
        have HN : Hid (runE (st blankP t) t.length (k + 1) = cnt blankP t) := cnt_next hlt hz HE.out
        generalize iAt t k = x at c0 KD
        clear hu hI hz HE HS
        go_wp2_with (first | (go_at_call 36; refine (KD _).mono ?_; rintro e w ⟨rfl, rfl⟩))
        go_round
        case rel => exact ⟨k + 1, by omega, by go_num, HN⟩
        case measure => simp [intOf]; omega
      | false =>
        rw [hz] at KD
        have hkE : k = E := (cnt_of (.inr ⟨hlt, hz⟩) HE.out).trans HS.out
        subst hkE
        generalize iAt t k = x at c0 KD
        clear hu hI hz HE HS
        go_wp2_with (first | (go_at_call 36; refine (KD _).mono ?_; rintro e w ⟨rfl, rfl⟩))
        go_ret
        exact ⟨rfl, rfl⟩
    · have hge : ¬ (k : Int) < t.length := by omega
      have hkE : k = E := by
        obtain rfl : k = t.length := by omega
        exact (cnt_of (.inl rfl) HE.out).trans HS.out
      subst hkE
      go_wp2
      go_ret
      exact ⟨rfl, rfl⟩

theorem cnt_at {P : Int → Bool} {t : List Int} {i k : Nat} (h : runE (st P (t.drop i)) (t.drop i).length k = cnt P (t.drop i)) : runE (st P t) t.length (i + k) = i + cnt P (t.drop i) := by
  rw [runE_shift (st_drop P t i), ← List.length_drop, h]

set_option maxRecDepth 100000 in
set_option maxHeartbeats 1000000 in
theorem rcount_any (q : Option Addr) (t : List Int) (n c i : Nat) (w : World) (hl : n = t.length) (hn : t.length ≤ 1099511627776) (hi : i ≤ t.length) (hI : Is w q t) :
    Calls Try.prog 57 #[.slice q n c, .int .i64 i] w fun e w' => e = .returned (.int .i64 (cnt digitP (t.drop i) : Nat)) ∧ w' = w := by
  subst hl
  obtain ⟨E, hE⟩ : ∃ E, cnt digitP (t.drop i) = E := ⟨_, rfl⟩
  rw [hE]
  have HS : Hid (cnt digitP (t.drop i) = E) := hE
  have hn2 : (t.length : Int) ≤ 1099511627776 := by omega
  have hi2 : (i : Int) ≤ t.length := by omega
  clear hE
  go_enter Try.func57, Try.ntmps57
  go_wp2
  go_loop [5] (fun iv => ∃ (k : Nat), i + k ≤ t.length ∧ iv = .int .i64 k ∧ Hid (runE (st digitP (t.drop i)) (t.drop i).length k = cnt digitP (t.drop i))) (fun iv => t.length - (intOf iv).toNat)
  case atStart => exact ⟨0, by omega, rfl, rfl⟩
  case round =>
    obtain ⟨k, hk, rfl, HE⟩ := hrel
    have e1 : (i : Int) + (k : Int) = ((i + k : Nat) : Int) := by omega
    by_cases hlt : i + k < t.length
    · have hli : ((i + k : Nat) : Int) < t.length := by omega
      obtain ⟨b, o, rfl, hu⟩ := hI.at (by omega)
      have c0 := hu (i + k) hlt
      have hld : k < (t.drop i).length := by simp; omega
      cases hz : digitP (iAt t (i + k)) with
      | true =>
        have HN : Hid (runE (st digitP (t.drop i)) (t.drop i).length (k + 1) = cnt digitP (t.drop i)) := cnt_next hld (by rw [iAt_drop]; exact hz) HE.out
        have hz2 := of_decide_eq_true hz
        generalize iAt t (i + k) = x at c0 hz2
        generalize i + k = j at *
        obtain ⟨h48, h57⟩ := hz2
        clear hu hI hz HE HS hld
        go_wp2
        go_round
        case rel => exact ⟨k + 1, by omega, by go_num, HN⟩
        case measure => simp [intOf]; omega
      | false =>
        have hkE : k = E := (cnt_of (.inr ⟨hld, by rw [iAt_drop]; exact hz⟩) HE.out).trans HS.out
        subst hkE
        have hz2 := of_decide_eq_false hz
        generalize iAt t (i + k) = x at c0 hz2
        generalize i + k = j at *
        clear hu hI hz HE HS hld
        by_cases h48 : 48 ≤ x
        · have h57 : ¬ x ≤ 57 := fun h => hz2 ⟨h48, h⟩
          clear hz2
          go_wp2
          go_ret
          exact ⟨rfl, rfl⟩
        · clear hz2
          go_wp2
          go_ret
          exact ⟨rfl, rfl⟩
    · have hge : ¬ ((i + k : Nat) : Int) < t.length := by omega
      have hkE : k = E := (cnt_of (.inl (by simp; omega)) HE.out).trans HS.out
      subst hkE
      generalize i + k = j at *
      go_wp2
      go_ret
      exact ⟨rfl, rfl⟩

def tailP (u : List Int) : Bool := decide (cnt blankP u = u.length ∨ (0 < cnt blankP u ∧ iAt u (cnt blankP u) = 35))

set_option maxRecDepth 100000 in
set_option maxHeartbeats 1000000 in
theorem tail_any (q : Option Addr) (t : List Int) (n c : Nat) (w : World) (hl : n = t.length) (hn : t.length ≤ 1099511627776) (hI : Is w q t) :
    Calls Try.prog 58 #[.slice q n c] w fun e w' => e = .returned (.bool (tailP t)) ∧ w' = w := by
  have PA := Past_any q t n c w hl hn hI
  subst hl
  obtain ⟨V, hV⟩ : ∃ V, tailP t = V := ⟨_, rfl⟩
  rw [hV]
  unfold tailP at hV
  have hE := cnt_le blankP t
  have hn2 : (t.length : Int) ≤ 1099511627776 := by omega
  generalize cnt blankP t = k at *
  by_cases h1 : k = t.length
  · rw [decide_eq_true (.inl h1)] at hV
    subst hV
    subst h1
    go_enter Try.func58, Try.ntmps58
    go_wp2_with (first | (go_at_call 56; refine PA.mono ?_; rintro e w ⟨rfl, rfl⟩))
    go_ret
    exact ⟨rfl, rfl⟩
  · have h1' : ((k : Int) == (t.length : Int)) = false := by simp; omega
    obtain ⟨b, o, rfl, hu⟩ := hI.at (by omega)
    have c0 := hu k (by omega)
    have hkl : (k : Int) < t.length := by omega
    by_cases h2 : 0 < k
    · have h2' : (0 : Int) < k := by omega
      by_cases h3 : iAt t k = 35
      · rw [decide_eq_true (.inr ⟨h2, h3⟩)] at hV
        subst hV
        rw [h3] at c0
        clear hu hI h1
        go_enter Try.func58, Try.ntmps58
        go_wp2_with (first | (go_at_call 56; refine PA.mono ?_; rintro e w ⟨rfl, rfl⟩))
        go_ret
        exact ⟨rfl, rfl⟩
      · rw [decide_eq_false (fun h => by rcases h with h | h; exact h1 h; exact h3 h.2)] at hV
        subst hV
        have h3' : (iAt t k == 35) = false := by simpa using h3
        generalize iAt t k = x at c0 h3'
        clear hu hI h1 h3
        go_enter Try.func58, Try.ntmps58
        go_wp2_with (first | (go_at_call 56; refine PA.mono ?_; rintro e w ⟨rfl, rfl⟩))
        go_ret
        exact ⟨rfl, rfl⟩
    · have h2' : ¬ (0 : Int) < k := by omega
      rw [decide_eq_false (fun h => by rcases h with h | h; exact h1 h; exact h2 h.1)] at hV
      subst hV
      clear hu hI h1
      go_enter Try.func58, Try.ntmps58
      go_wp2_with (first | (go_at_call 56; refine PA.mono ?_; rintro e w ⟨rfl, rfl⟩))
      go_ret
      exact ⟨rfl, rfl⟩

def dE (t : List Int) (k : Nat) : Nat := k + cnt digitP (t.drop k)
theorem dE_le {t : List Int} {k : Nat} (h : k ≤ t.length) : dE t k ≤ t.length := by
  have := cnt_le digitP (t.drop k)
  simp at this
  unfold dE
  omega
/-- Of %YAML, behind its name, by the document. -/
def rverP (t : List Int) (i : Nat) : Option (ByteArray × ByteArray × ByteArray) :=
  if bE t i = i ∨ dE t (bE t i) = bE t i ∨ t.length ≤ dE t (bE t i) ∨ iAt t (dE t (bE t i)) ≠ 46 then none
  else if dE t (dE t (bE t i) + 1) = dE t (bE t i) + 1 ∨ tailP (t.drop (dE t (dE t (bE t i) + 1))) = false then none
  else some (yamlB, txt ((t.drop (bE t i)).take (dE t (bE t i) - bE t i)), txt ((t.drop (dE t (bE t i) + 1)).take (dE t (dE t (bE t i) + 1) - (dE t (bE t i) + 1))))

end Go.Proofs.Ytgldejcneglpnaa
