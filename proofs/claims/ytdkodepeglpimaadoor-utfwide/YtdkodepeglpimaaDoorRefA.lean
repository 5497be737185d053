/- The document's own small answers: right, SameInts, is, Form. -/
import Derived.Test.YtdkodepeglpimaaDoorPtsB
import Derived.Deep.Cut
set_option linter.unusedVariables false
set_option linter.unusedSimpArgs false
namespace Go.Proofs.YtdkodepeglpimaaDoor
open Go.RowKit Go.Shelf

def okP (c : Int) : Bool := decide (0 ≤ c) && decide (c ≤ 1114111) && (decide (c < 55296) || decide (57343 < c))

set_option maxRecDepth 100000 in
set_option maxHeartbeats 400000 in
theorem right_any (c : Int) (w : World) :
    Calls Tryd.prog 21 #[.int .i64 c] w fun e w' => e = .returned (.bool (okP c)) ∧ w' = w := by
  by_cases h0 : 0 ≤ c
  · by_cases h1 : c ≤ 1114111
    · by_cases h2 : c < 55296
      · go_enter Tryd.func21, Tryd.ntmps21
        go_wp2
        go_ret
        exact ⟨ret_bool (by unfold okP; simp [h0, h1, h2]), rfl⟩
      · go_enter Tryd.func21, Tryd.ntmps21
        go_wp2
        all_goals
          go_ret
          exact ⟨ret_bool (by unfold okP; simp [h0, h1, h2]; try omega), rfl⟩
    · go_enter Tryd.func21, Tryd.ntmps21
      go_wp2
      go_ret
      exact ⟨ret_bool (by unfold okP; simp; omega), rfl⟩
  · go_enter Tryd.func21, Tryd.ntmps21
    go_wp2
    go_ret
    exact ⟨ret_bool (by unfold okP; simp; omega), rfl⟩

/-- The slice at p holds these ints; of an empty one nothing is asked. -/
def Is (w : World) (p : Option Addr) (l : List Int) : Prop :=
  l = [] ∨ ∃ b o, p = some ⟨b, o, none⟩ ∧ ∀ j, j < l.length → w.cell? ⟨b, o + j, none⟩ = some (.int .i64 (l[j]?.getD 0))

theorem is_of_row {w : World} {base n : Nat} {a : Option Addr} {k c : Nat} {l : List Int} (h : w.ownsRow base 3 1 (.slice a k c) n (l.map (.int .i64))) : Is w a l ∧ k = l.length ∧ n = l.length ∧ k ≤ c ∧ c ≤ maxLen := by
  have hl : l.length = n := by have := h.1; simpa using this
  have h' := h
  obtain ⟨-, ⟨e, e2⟩ | ⟨g, cap, cur, e, hb, hg, h1, h2, h3, h4⟩⟩ := h'
  · cases e
    exact ⟨.inl (List.eq_nil_of_length_eq_zero (by omega)), by omega, by omega, by omega, by unfold maxLen; omega⟩
  · cases e
    refine ⟨.inr ⟨g, 0, rfl, fun j hj => ?_⟩, by omega, by omega, h1, h2⟩
    rw [Nat.zero_add, h.cellAt j (by omega)]
    simp [hj]

theorem Is.at {w : World} {p : Option Addr} {l : List Int} (h : Is w p l) (hl : 0 < l.length) : ∃ b o, p = some ⟨b, o, none⟩ ∧ ∀ j, j < l.length → w.cell? ⟨b, o + j, none⟩ = some (.int .i64 (l[j]?.getD 0)) := by
  rcases h with rfl | h
  · simp at hl
  · exact h
theorem Is.below {n₀ : Nat} {A B : World} {p : Option Addr} {l : List Int} (h : Is A p l) (hp : ∀ a, p = some a → a.block < n₀) (hb : Below n₀ A B) : Is B p l := by
  rcases h with rfl | ⟨b, o, rfl, hc⟩
  · exact .inl rfl
  · exact .inr ⟨b, o, rfl, fun j hj => (hb.cell (p := ⟨b, o + j, none⟩) (hp ⟨b, o, none⟩ rfl)).trans (hc j hj)⟩

set_option maxRecDepth 100000 in
set_option maxHeartbeats 1000000 in
theorem same_same (p q : Option Addr) (l : List Int) (c d : Nat) (w : World) (hn : (l.length : Int) ≤ 1048576) (hp : Is w p l) (hq : Is w q l) :
    Calls Tryd.prog 14 #[.slice p l.length c, .slice q l.length d] w fun e w' => e = .returned (.bool true) ∧ ∃ k, w' = w.drewN k := by
  go_enter Tryd.func14, Tryd.ntmps14
  go_wp2
  go_loopw [5] (fun i wr => ∃ (k m : Nat), k ≤ l.length ∧ i = .int .i64 k ∧ wr = w.drewN m) (fun i _ => l.length - (intOf i).toNat)
  case atStart => exact ⟨0, 0, Nat.zero_le _, rfl, rfl⟩
  case round =>
    obtain ⟨k, m, hk, rfl, rfl⟩ := hrel
    by_cases hlt : k < l.length
    · obtain ⟨b, o, rfl, hb⟩ := hp.at (by omega)
      obtain ⟨b', o', rfl, hb'⟩ := hq.at (by omega)
      have c0 := hb k hlt
      have c1 := hb' k hlt
      clear hb hb' hp hq
      generalize l[k]?.getD 0 = x at c0 c1
      go_wp2
      go_quiet (fail)
      go_wp2
      go_roundw
      case rel => exact ⟨k + 1, _, by omega, by go_num, rfl⟩
      case measure => simp [intOf]; omega
    · obtain rfl : k = l.length := by omega
      go_wp2
      go_ret
      exact ⟨rfl, _, rfl⟩

theorem byteAt_inj {l m : List UInt8} {k : Nat} (h1 : k < l.length) (h2 : k < m.length) (h : byteAt l k = byteAt m k) : l[k] = m[k] := by
  unfold byteAt at h
  rw [List.getElem?_eq_getElem h1, List.getElem?_eq_getElem h2] at h
  simp only [Option.getD_some] at h
  exact UInt8.toNat_inj.1 (by omega)

theorem begins_yes {l m : List UInt8} (h : m.length ≤ l.length) (e : l.take m.length = m.take m.length) : beginsB l ⟨m.toArray⟩ = true := by
  unfold beginsB
  rw [Lib.toList_data]
  have : (⟨m.toArray⟩ : ByteArray).size = m.length := by simp [ByteArray.size]
  rw [this]
  simp [h]
  simpa using e
theorem begins_no {l m : List UInt8} (k : Nat) (h1 : k < l.length) (h2 : k < m.length) (e : ¬ byteAt l k = byteAt m k) : beginsB l ⟨m.toArray⟩ = false := by
  unfold beginsB
  rw [Lib.toList_data]
  have : (⟨m.toArray⟩ : ByteArray).size = m.length := by simp [ByteArray.size]
  rw [this, Bool.and_eq_false_iff]
  right
  rw [decide_eq_false_iff_not]
  intro h
  apply e
  unfold byteAt
  have h3 : (l.take m.length)[k]? = m[k]? := by rw [h]
  rw [List.getElem?_take_of_lt h2] at h3
  rw [h3]
theorem begins_short {l m : List UInt8} (h : l.length < m.length) : beginsB l ⟨m.toArray⟩ = false := by
  unfold beginsB
  rw [Bool.and_eq_false_iff]
  left
  simp [ByteArray.size, h]

set_option maxRecDepth 100000 in
set_option maxHeartbeats 1000000 in
theorem is_any (p q : Option Addr) (l m : List UInt8) (c d : Nat) (w : World) (hn : (l.length : Int) ≤ 1048576) (hm : (m.length : Int) ≤ 4) (hp : Bs w p l) (hq : Bs w q m) :
    Calls Tryd.prog 24 #[.slice p l.length c, .slice q m.length d] w fun e w' => e = .returned (.bool (beginsB l ⟨m.toArray⟩)) ∧ ∃ k, w' = w.drewN k := by
  by_cases hs : l.length < m.length
  · rw [begins_short hs]
    clear hp hq
    go_enter Tryd.func24, Tryd.ntmps24
    go_wp2
    go_ret
    exact ⟨rfl, 0, rfl⟩
  · have hs' : m.length ≤ l.length := by omega
    obtain ⟨r, hR⟩ : ∃ r, beginsB l ⟨m.toArray⟩ = r := ⟨_, rfl⟩
    rw [hR]
    have HR : Hid (beginsB l ⟨m.toArray⟩ = r) := hR
    have hz : ¬ (l.length : Int) < m.length := by omega
    clear hR hs
    go_enter Tryd.func24, Tryd.ntmps24
    go_wp2
    go_loopw [5] (fun i wr => ∃ (k n : Nat), k ≤ m.length ∧ i = .int .i64 k ∧ wr = w.drewN n ∧ Hid (l.take k = m.take k)) (fun i _ => m.length - (intOf i).toNat)
    case atStart => exact ⟨0, 0, Nat.zero_le _, rfl, rfl, rfl⟩
    case round =>
      obtain ⟨k, n, hk, rfl, rfl, HE⟩ := hrel
      by_cases hlt : k < m.length
      · obtain ⟨b, o, rfl, hb⟩ := hp.at (by omega)
        obtain ⟨b', o', rfl, hb'⟩ := hq.at (by omega)
        have c0 := hb k (by omega)
        have c1 := hb' k hlt
        have hkl : k < l.length := by omega
        clear hb hb' hp hq
        by_cases hx : byteAt l k = byteAt m k
        · have HE' : Hid (l.take (k + 1) = m.take (k + 1)) := by
            show l.take (k + 1) = m.take (k + 1)
            rw [List.take_succ_eq_append_getElem hkl, List.take_succ_eq_append_getElem hlt, HE.out, byteAt_inj hkl hlt hx]
          generalize byteAt l k = x at c0 hx
          subst hx
          generalize byteAt m k = y at c0 c1
          go_wp2
          go_quiet (fail)
          go_wp2
          go_roundw
          case rel => exact ⟨k + 1, _, by omega, by go_num, rfl, HE'⟩
          case measure => simp [intOf]; omega
        · have hr : r = false := HR.out.symm.trans (begins_no k hkl hlt hx)
          generalize byteAt l k = x at c0 hx
          generalize byteAt m k = y at c1 hx
          have hx' : (x != y) = true := by simpa using hx
          go_wp2
          go_quiet (fail)
          go_wp2
          go_ret
          exact ⟨ret_bool hr.symm, _, by rw [World.drewN_drewN]⟩
      · obtain rfl : k = m.length := by omega
        have hr : r = true := HR.out.symm.trans (begins_yes hs' HE.out)
        go_wp2
        go_ret
        exact ⟨ret_bool hr.symm, _, rfl⟩
end Go.Proofs.YtdkodepeglpimaaDoor
