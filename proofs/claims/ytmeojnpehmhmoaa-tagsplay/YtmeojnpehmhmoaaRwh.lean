/- The document's Whole. -/
import Derived.Test.YtmeojnpehmhmoaaRto
import Derived.Test.YtmeojnpehmhmoaaRst
set_option linter.all false
set_option maxRecDepth 100000
namespace Go.Proofs.Ytmeojnpehmhmoaa
open Go.RowKit Go.Shelf Go.Lib

set_option maxHeartbeats 800000 in
theorem rWhole_none (p : Option Addr) (s : ByteArray) (w : World) (h : s.toList = [] ∨ s.toList = [33]) :
    Calls Try.prog 9 #[.pointer p, .string s] w fun e w' => e = .returned (whoV (s, 0)) ∧ w' = w := by
  unfold whoV
  rcases h with h | h
  · go_enter Try.func9, Try.ntmps9
    go_wp2
    all_goals go_ret2
    all_goals exact ⟨rfl, rfl⟩
  · have h1 : s.toList.isEmpty = false := by rw [h]; rfl
    go_enter Try.func9, Try.ntmps9
    go_wp2
    all_goals go_ret2
    all_goals exact ⟨rfl, rfl⟩
set_option maxHeartbeats 800000 in
theorem rWhole_not (p : Option Addr) (s : ByteArray) (w : World) (h1 : s.toList.isEmpty = false) (h2 : (s.toList == [33]) = false)
    (TD : Calls Try.prog 23 #[.string s] w fun e w' => e = .returned (.bool false) ∧ Below w.heap.size w w') :
    Calls Try.prog 9 #[.pointer p, .string s] w fun e w' => e = .returned (whoV (⟨#[]⟩, 11)) ∧ Below w.heap.size w w' := by
  unfold whoV
  go_enter Try.func9, Try.ntmps9
  go_wp2_with (first | (go_at_call 23; refine TD.mono ?_; rintro e w1 ⟨rfl, hb⟩))
  go_ret2
  exact ⟨rfl, hb⟩
set_option maxHeartbeats 800000 in
theorem rWhole_angle (p : Option Addr) (s : ByteArray) (w : World) (h1 : s.toList.isEmpty = false) (h2 : (s.toList == [33]) = false) (h0 : 0 < s.size) (h3 : (s[0]'h0).toNat = 60)
    (TD : Calls Try.prog 23 #[.string s] w fun e w' => e = .returned (.bool true) ∧ Below w.heap.size w w') :
    Calls Try.prog 9 #[.pointer p, .string s] w fun e w' => e = .returned (whoV (s.extract 1 s.size, 0)) ∧ Below w.heap.size w w' := by
  unfold whoV
  have h4 : s.size ≠ 0 := by omega
  have hs1 : (1 : Int) ≤ s.size := by omega
  go_enter Try.func9, Try.ntmps9
  go_wp2_with (first | (go_at_call 23; refine TD.mono ?_; rintro e w1 ⟨rfl, hb⟩))
  go_ret2
  exact ⟨rfl, hb⟩
theorem u8_33 {x : UInt8} : ((x.toNat : Int) == 33) = decide (x = 33) := by
  rw [Bool.eq_iff_iff, beq_iff_eq, decide_eq_true_iff]
  constructor
  · intro h
    exact UInt8.toNat_inj.1 (by show x.toNat = 33; omega)
  · rintro rfl; rfl
def fndR (o : Option ByteArray) (r : ByteArray) : ByteArray × Int :=
  match o with
  | some q => (q ++ r, 0)
  | none => (⟨#[]⟩, 11)
set_option maxHeartbeats 1600000 in
/-- A handle that has a second sign. -/
theorem rWhole_two (b base : Nat) (v : Value) (D : List Mn) (s : ByteArray) (k : Nat) (o : Option ByteArray) (w : World) (h1 : s.toList.isEmpty = false) (h2 : (s.toList == [33]) = false) (h0 : 0 < s.size) (h3 : ((((s[0]'h0).toNat : Nat) : Int) == 60) = false) (hs : s.size ≤ 1000000)
    (hk1 : 1 ≤ k) (hk : k < s.size) (hat : s[k] = 33) (hno : ∀ j (hj : j < s.size), 1 ≤ j → j < k → s[j] ≠ 33) (hb : Boxed w b 31 v) (hO : OwnH w base v D) (hD : D.length ≤ 50)
    (ho : preP (s.extract 0 (k + 1)) (look D (s.extract 0 (k + 1))) = o) (hq : ∀ q, o = some q → q.size ≤ 1000000000000000)
    (TD : Calls Try.prog 23 #[.string s] w fun e w' => e = .returned (.bool true) ∧ Below w.heap.size w w') :
    Calls Try.prog 9 #[.pointer (some ⟨b, 0, none⟩), .string s] w fun e w' => e = .returned (whoV (fndR o (s.extract (k + 1) s.size))) ∧ Below w.heap.size w w' := by
  have h4 : s.size ≠ 0 := by omega
  have hs1 : (1 : Int) ≤ s.size := by omega
  have hk2 : ((k : Int) + 1) ≤ s.size := by omega
  have hk3 : (k : Int) < s.size := by omega
  have hat' : (s[k]).toNat = 33 := by rw [hat]; rfl
  have HNO : Hid (∀ j (hj : j < s.size), 1 ≤ j → j < k → s[j] ≠ 33) := hno
  clear hno
  have FN : Hid (∀ W, Below w.heap.size w W → Calls Try.prog 24 #[.pointer (some ⟨b, 0, none⟩), .string (s.extract 0 (k + 1))] W fun e w' => e = .returned (optV o) ∧ w' = W) := fun W hB => by
    have := find_any b base v D (s.extract 0 (k + 1)) W (boxed_below hb hB) (hO.kept (grown_of_below hB) (by cases v.ownBlock with | none => exact .inl rfl | some g => exact .inr (fun e => by cases e))) hD
    rw [ho] at this
    exact this
  clear ho
  cases o with
  | none =>
    unfold optV at FN
    simp only [Option.getD, Option.isSome] at FN
    unfold whoV fndR
    dsimp only
    clear hq
    go_enter Try.func9, Try.ntmps9
    go_wp2_with (first | (go_at_call 23; refine TD.mono ?_; rintro e w1 ⟨rfl, hB1⟩))
    have FN2 := FN.out w1 hB1
    go_loop [6] (fun ri => ∃ j : Nat, 1 ≤ j ∧ j ≤ k ∧ ri = .int .i64 j) (fun ri => k - (RowKit.intOf ri).toNat)
    case atStart => exact ⟨1, Nat.le_refl _, by omega, rfl⟩
    case round =>
      obtain ⟨j, hj1, hj, rfl⟩ := hrel
      by_cases hlt : j < k
      · have hjs : j < s.size := by omega
        have hjs' : (j : Int) < s.size := by omega
        have hne := HNO.out j hjs hj1 hlt
        have hne' : (((s[j]'hjs).toNat : Int) == 33) = false := by rw [u8_33]; exact decide_eq_false hne
        clear FN2 FN TD hne
        go_wp2
        go_round
        case rel => exact ⟨j + 1, by omega, by omega, by go_num⟩
        case measure => simp [RowKit.intOf]; omega
      · obtain rfl : j = k := by omega
        clear FN TD HNO
        go_wp2_with (first | (go_at_call 24; refine FN2.mono ?_; rintro e w2 ⟨rfl, rfl⟩))
        go_ret2
        exact ⟨rfl, hB1⟩
  | some q =>
    unfold optV at FN
    simp only [Option.getD, Option.isSome] at FN
    unfold whoV fndR
    dsimp only
    have AD : ∀ W, (Op.stringOp .add q (s.extract (k + 1) s.size)).run Try.prog W = .ok (.string (q ++ s.extract (k + 1) s.size)) W := fun W => run_string_add_sum W q _ (by have := hq q rfl; simp; omega)
    clear hq
    go_enter Try.func9, Try.ntmps9
    go_wp2_with (first | (go_at_call 23; refine TD.mono ?_; rintro e w1 ⟨rfl, hB1⟩))
    have FN2 := FN.out w1 hB1
    go_loop [6] (fun ri => ∃ j : Nat, 1 ≤ j ∧ j ≤ k ∧ ri = .int .i64 j) (fun ri => k - (RowKit.intOf ri).toNat)
    case atStart => exact ⟨1, Nat.le_refl _, by omega, rfl⟩
    case round =>
      obtain ⟨j, hj1, hj, rfl⟩ := hrel
      by_cases hlt : j < k
      · have hjs : j < s.size := by omega
        have hjs' : (j : Int) < s.size := by omega
        have hne := HNO.out j hjs hj1 hlt
        have hne' : (((s[j]'hjs).toNat : Int) == 33) = false := by rw [u8_33]; exact decide_eq_false hne
        clear FN2 FN TD hne
        go_wp2
        go_round
        case rel => exact ⟨j + 1, by omega, by omega, by go_num⟩
        case measure => simp [RowKit.intOf]; omega
      · obtain rfl : j = k := by omega
        clear FN TD HNO
        go_wp2_with (first | (go_at_call 24; refine FN2.mono ?_; rintro e w2 ⟨rfl, rfl⟩))
        go_ret2
        exact ⟨rfl, hB1⟩
set_option maxHeartbeats 1600000 in
/-- A handle of one sign. -/
theorem rWhole_one (b base : Nat) (v : Value) (D : List Mn) (s : ByteArray) (o : Option ByteArray) (w : World) (h1 : s.toList.isEmpty = false) (h2 : (s.toList == [33]) = false) (h0 : 0 < s.size) (h3 : ((((s[0]'h0).toNat : Nat) : Int) == 60) = false) (hs : s.size ≤ 1000000)
    (hno : ∀ j (hj : j < s.size), 1 ≤ j → s[j] ≠ 33) (hb : Boxed w b 31 v) (hO : OwnH w base v D) (hD : D.length ≤ 50)
    (ho : preP ⟨#[33]⟩ (look D ⟨#[33]⟩) = o) (hq : ∀ q, o = some q → q.size ≤ 1000000000000000)
    (TD : Calls Try.prog 23 #[.string s] w fun e w' => e = .returned (.bool true) ∧ Below w.heap.size w w') :
    Calls Try.prog 9 #[.pointer (some ⟨b, 0, none⟩), .string s] w fun e w' => e = .returned (whoV (fndR o (s.extract 1 s.size))) ∧ Below w.heap.size w w' := by
  have h4 : s.size ≠ 0 := by omega
  have hs1 : (1 : Int) ≤ s.size := by omega
  have HNO : Hid (∀ j (hj : j < s.size), 1 ≤ j → s[j] ≠ 33) := hno
  clear hno
  have FN : Hid (∀ W, Below w.heap.size w W → Calls Try.prog 24 #[.pointer (some ⟨b, 0, none⟩), .string ⟨#[33]⟩] W fun e w' => e = .returned (optV o) ∧ w' = W) := fun W hB => by
    have := find_any b base v D ⟨#[33]⟩ W (boxed_below hb hB) (hO.kept (grown_of_below hB) (by cases v.ownBlock with | none => exact .inl rfl | some g => exact .inr (fun e => by cases e))) hD
    rw [ho] at this
    exact this
  clear ho
  cases o with
  | none =>
    unfold optV at FN
    simp only [Option.getD, Option.isSome] at FN
    unfold whoV fndR
    dsimp only
    clear hq
    go_enter Try.func9, Try.ntmps9
    go_wp2_with (first | (go_at_call 23; refine TD.mono ?_; rintro e w1 ⟨rfl, hB1⟩))
    have FN2 := FN.out w1 hB1
    go_loop [6] (fun ri => ∃ j : Nat, 1 ≤ j ∧ j ≤ s.size ∧ ri = .int .i64 j) (fun ri => s.size - (RowKit.intOf ri).toNat)
    case atStart => exact ⟨1, Nat.le_refl _, by omega, rfl⟩
    case round =>
      obtain ⟨j, hj1, hj, rfl⟩ := hrel
      by_cases hlt : j < s.size
      · have hjs : j < s.size := by omega
        have hjs' : (j : Int) < s.size := by omega
        have hne := HNO.out j hjs hj1
        have hne' : (((s[j]'hjs).toNat : Int) == 33) = false := by rw [u8_33]; exact decide_eq_false hne
        clear FN2 FN TD hne
        go_wp2
        go_round
        case rel => exact ⟨j + 1, by omega, by omega, by go_num⟩
        case measure => simp [RowKit.intOf]; omega
      · obtain rfl : j = s.size := by omega
        clear FN TD HNO
        go_wp2_with (first | (go_at_call 24; refine FN2.mono ?_; rintro e w2 ⟨rfl, rfl⟩))
        go_ret2
        exact ⟨rfl, hB1⟩
  | some q =>
    unfold optV at FN
    simp only [Option.getD, Option.isSome] at FN
    unfold whoV fndR
    dsimp only
    have AD : ∀ W, (Op.stringOp .add q (s.extract 1 s.size)).run Try.prog W = .ok (.string (q ++ s.extract 1 s.size)) W := fun W => run_string_add_sum W q _ (by have := hq q rfl; simp; omega)
    clear hq
    go_enter Try.func9, Try.ntmps9
    go_wp2_with (first | (go_at_call 23; refine TD.mono ?_; rintro e w1 ⟨rfl, hB1⟩))
    have FN2 := FN.out w1 hB1
    go_loop [6] (fun ri => ∃ j : Nat, 1 ≤ j ∧ j ≤ s.size ∧ ri = .int .i64 j) (fun ri => s.size - (RowKit.intOf ri).toNat)
    case atStart => exact ⟨1, Nat.le_refl _, by omega, rfl⟩
    case round =>
      obtain ⟨j, hj1, hj, rfl⟩ := hrel
      by_cases hlt : j < s.size
      · have hjs : j < s.size := by omega
        have hjs' : (j : Int) < s.size := by omega
        have hne := HNO.out j hjs hj1
        have hne' : (((s[j]'hjs).toNat : Int) == 33) = false := by rw [u8_33]; exact decide_eq_false hne
        clear FN2 FN TD hne
        go_wp2
        go_round
        case rel => exact ⟨j + 1, by omega, by omega, by go_num⟩
        case measure => simp [RowKit.intOf]; omega
      · obtain rfl : j = s.size := by omega
        clear FN TD HNO
        go_wp2_with (first | (go_at_call 24; refine FN2.mono ?_; rintro e w2 ⟨rfl, rfl⟩))
        go_ret2
        exact ⟨rfl, hB1⟩
end Go.Proofs.Ytmeojnpehmhmoaa
