/- The document's Whole. Both make the same whole. -/
import Derived.Test.YtmeojnpehmhmoaaRto
import Derived.Test.YtmeojnpehmhmoaaRst
import Derived.Lib.IndexLaws
set_option linter.all false
set_option maxRecDepth 100000
namespace Go.Proofs.Ytmeojnpehmhmoaa
open Go.RowKit Go.Shelf Go.Lib

set_option maxHeartbeats 800000 in
theorem rWhole_none (p : Option Addr) (s : ByteArray) (w : World) (h : s.toList = [] ∨ s.toList = [33]) :
    Calls Try.prog 9 #[.pointer p, .string s] w fun e w' => e = .returned (whoV (s, 0)) ∧ w' = w := by
  unfold whoV
  rcases h with h | h
  · go_enter Try.func9, Try.ntmps9
    go_wp2
    all_goals go_ret2
    all_goals exact ⟨rfl, rfl⟩
  · have h1 : s.toList.isEmpty = false := by rw [h]; rfl
    go_enter Try.func9, Try.ntmps9
    go_wp2
    all_goals go_ret2
    all_goals exact ⟨rfl, rfl⟩
set_option maxHeartbeats 800000 in
theorem rWhole_not (p : Option Addr) (s : ByteArray) (w : World) (h1 : s.toList.isEmpty = false) (h2 : (s.toList == [33]) = false)
    (TD : Calls Try.prog 23 #[.string s] w fun e w' => e = .returned (.bool false) ∧ Below w.heap.size w w') :
    Calls Try.prog 9 #[.pointer p, .string s] w fun e w' => e = .returned (whoV (⟨#[]⟩, 11)) ∧ Below w.heap.size w w' := by
  unfold whoV
  go_enter Try.func9, Try.ntmps9
  go_wp2_with (first | (go_at_call 23; refine TD.mono ?_; rintro e w1 ⟨rfl, hb⟩))
  go_ret2
  exact ⟨rfl, hb⟩
set_option maxHeartbeats 800000 in
theorem rWhole_angle (p : Option Addr) (s : ByteArray) (w : World) (h1 : s.toList.isEmpty = false) (h2 : (s.toList == [33]) = false) (h0 : 0 < s.size) (h3 : (s[0]'h0).toNat = 60)
    (TD : Calls Try.prog 23 #[.string s] w fun e w' => e = .returned (.bool true) ∧ Below w.heap.size w w') :
    Calls Try.prog 9 #[.pointer p, .string s] w fun e w' => e = .returned (whoV (s.extract 1 s.size, 0)) ∧ Below w.heap.size w w' := by
  unfold whoV
  have h4 : s.size ≠ 0 := by omega
  have hs1 : (1 : Int) ≤ s.size := by omega
  go_enter Try.func9, Try.ntmps9
  go_wp2_with (first | (go_at_call 23; refine TD.mono ?_; rintro e w1 ⟨rfl, hb⟩))
  go_ret2
  exact ⟨rfl, hb⟩
theorem u8_33 {x : UInt8} : ((x.toNat : Int) == 33) = decide (x = 33) := by
  rw [Bool.eq_iff_iff, beq_iff_eq, decide_eq_true_iff]
  constructor
  · intro h
    exact UInt8.toNat_inj.1 (by show x.toNat = 33; omega)
  · rintro rfl; rfl
def fndR (o : Option ByteArray) (r : ByteArray) : ByteArray × Int :=
  match o with
  | some q => (q ++ r, 0)
  | none => (⟨#[]⟩, 11)
set_option maxHeartbeats 1600000 in
/-- A handle that has a second sign. -/
theorem rWhole_two (b base : Nat) (v : Value) (D : List Mn) (s : ByteArray) (k : Nat) (o : Option ByteArray) (w : World) (h1 : s.toList.isEmpty = false) (h2 : (s.toList == [33]) = false) (h0 : 0 < s.size) (h3 : ((((s[0]'h0).toNat : Nat) : Int) == 60) = false) (hs : s.size ≤ 1000000)
    (hk1 : 1 ≤ k) (hk : k < s.size) (hat : s[k] = 33) (hno : ∀ j (hj : j < s.size), 1 ≤ j → j < k → s[j] ≠ 33) (hb : Boxed w b 31 v) (hO : OwnH w base v D) (hD : D.length ≤ 50)
    (ho : preP (s.extract 0 (k + 1)) (look D (s.extract 0 (k + 1))) = o) (hq : ∀ q, o = some q → q.size ≤ 1000000000000000)
    (TD : Calls Try.prog 23 #[.string s] w fun e w' => e = .returned (.bool true) ∧ Below w.heap.size w w') :
    Calls Try.prog 9 #[.pointer (some ⟨b, 0, none⟩), .string s] w fun e w' => e = .returned (whoV (fndR o (s.extract (k + 1) s.size))) ∧ Below w.heap.size w w' := by
  have h4 : s.size ≠ 0 := by omega
  have hs1 : (1 : Int) ≤ s.size := by omega
  have hk2 : ((k : Int) + 1) ≤ s.size := by omega
  have hk3 : (k : Int) < s.size := by omega
  have hat' : (s[k]).toNat = 33 := by rw [hat]; rfl
  have HNO : Hid (∀ j (hj : j < s.size), 1 ≤ j → j < k → s[j] ≠ 33) := hno
  clear hno
  have FN : Hid (∀ W, Below w.heap.size w W → Calls Try.prog 24 #[.pointer (some ⟨b, 0, none⟩), .string (s.extract 0 (k + 1))] W fun e w' => e = .returned (optV o) ∧ w' = W) := fun W hB => by
    have := find_any b base v D (s.extract 0 (k + 1)) W (boxed_below hb hB) (hO.kept (grown_of_below hB) (by cases v.ownBlock with | none => exact .inl rfl | some g => exact .inr (fun e => by cases e))) hD
    rw [ho] at this
    exact this
  clear ho
  cases o with
  | none =>
    unfold optV at FN
    simp only [Option.getD, Option.isSome] at FN
    unfold whoV fndR
    dsimp only
    clear hq
    go_enter Try.func9, Try.ntmps9
    go_wp2_with (first | (go_at_call 23; refine TD.mono ?_; rintro e w1 ⟨rfl, hB1⟩))
    have FN2 := FN.out w1 hB1
    go_loop [6] (fun ri => ∃ j : Nat, 1 ≤ j ∧ j ≤ k ∧ ri = .int .i64 j) (fun ri => k - (RowKit.intOf ri).toNat)
    case atStart => exact ⟨1, Nat.le_refl _, by omega, rfl⟩
    case round =>
      obtain ⟨j, hj1, hj, rfl⟩ := hrel
      by_cases hlt : j < k
      · have hjs : j < s.size := by omega
        have hjs' : (j : Int) < s.size := by omega
        have hne := HNO.out j hjs hj1 hlt
        have hne' : (((s[j]'hjs).toNat : Int) == 33) = false := by rw [u8_33]; exact decide_eq_false hne
        clear FN2 FN TD hne
        go_wp2
        go_round
        case rel => exact ⟨j + 1, by omega, by omega, by go_num⟩
        case measure => simp [RowKit.intOf]; omega
      · obtain rfl : j = k := by omega
        clear FN TD HNO
        go_wp2_with (first | (go_at_call 24; refine FN2.mono ?_; rintro e w2 ⟨rfl, rfl⟩))
        go_ret2
        exact ⟨rfl, hB1⟩
  | some q =>
    unfold optV at FN
    simp only [Option.getD, Option.isSome] at FN
    unfold whoV fndR
    dsimp only
    have AD : ∀ W, (Op.stringOp .add q (s.extract (k + 1) s.size)).run Try.prog W = .ok (.string (q ++ s.extract (k + 1) s.size)) W := fun W => run_string_add_sum W q _ (by have := hq q rfl; simp; omega)
    clear hq
    go_enter Try.func9, Try.ntmps9
    go_wp2_with (first | (go_at_call 23; refine TD.mono ?_; rintro e w1 ⟨rfl, hB1⟩))
    have FN2 := FN.out w1 hB1
    go_loop [6] (fun ri => ∃ j : Nat, 1 ≤ j ∧ j ≤ k ∧ ri = .int .i64 j) (fun ri => k - (RowKit.intOf ri).toNat)
    case atStart => exact ⟨1, Nat.le_refl _, by omega, rfl⟩
    case round =>
      obtain ⟨j, hj1, hj, rfl⟩ := hrel
      by_cases hlt : j < k
      · have hjs : j < s.size := by omega
        have hjs' : (j : Int) < s.size := by omega
        have hne := HNO.out j hjs hj1 hlt
        have hne' : (((s[j]'hjs).toNat : Int) == 33) = false := by rw [u8_33]; exact decide_eq_false hne
        clear FN2 FN TD hne
        go_wp2
        go_round
        case rel => exact ⟨j + 1, by omega, by omega, by go_num⟩
        case measure => simp [RowKit.intOf]; omega
      · obtain rfl : j = k := by omega
        clear FN TD HNO
        go_wp2_with (first | (go_at_call 24; refine FN2.mono ?_; rintro e w2 ⟨rfl, rfl⟩))
        go_ret2
        exact ⟨rfl, hB1⟩
set_option maxHeartbeats 1600000 in
/-- A handle of one sign. -/
theorem rWhole_one (b base : Nat) (v : Value) (D : List Mn) (s : ByteArray) (o : Option ByteArray) (w : World) (h1 : s.toList.isEmpty = false) (h2 : (s.toList == [33]) = false) (h0 : 0 < s.size) (h3 : ((((s[0]'h0).toNat : Nat) : Int) == 60) = false) (hs : s.size ≤ 1000000)
    (hno : ∀ j (hj : j < s.size), 1 ≤ j → s[j] ≠ 33) (hb : Boxed w b 31 v) (hO : OwnH w base v D) (hD : D.length ≤ 50)
    (ho : preP ⟨#[33]⟩ (look D ⟨#[33]⟩) = o) (hq : ∀ q, o = some q → q.size ≤ 1000000000000000)
    (TD : Calls Try.prog 23 #[.string s] w fun e w' => e = .returned (.bool true) ∧ Below w.heap.size w w') :
    Calls Try.prog 9 #[.pointer (some ⟨b, 0, none⟩), .string s] w fun e w' => e = .returned (whoV (fndR o (s.extract 1 s.size))) ∧ Below w.heap.size w w' := by
  have h4 : s.size ≠ 0 := by omega
  have hs1 : (1 : Int) ≤ s.size := by omega
  have HNO : Hid (∀ j (hj : j < s.size), 1 ≤ j → s[j] ≠ 33) := hno
  clear hno
  have FN : Hid (∀ W, Below w.heap.size w W → Calls Try.prog 24 #[.pointer (some ⟨b, 0, none⟩), .string ⟨#[33]⟩] W fun e w' => e = .returned (optV o) ∧ w' = W) := fun W hB => by
    have := find_any b base v D ⟨#[33]⟩ W (boxed_below hb hB) (hO.kept (grown_of_below hB) (by cases v.ownBlock with | none => exact .inl rfl | some g => exact .inr (fun e => by cases e))) hD
    rw [ho] at this
    exact this
  clear ho
  cases o with
  | none =>
    unfold optV at FN
    simp only [Option.getD, Option.isSome] at FN
    unfold whoV fndR
    dsimp only
    clear hq
    go_enter Try.func9, Try.ntmps9
    go_wp2_with (first | (go_at_call 23; refine TD.mono ?_; rintro e w1 ⟨rfl, hB1⟩))
    have FN2 := FN.out w1 hB1
    go_loop [6] (fun ri => ∃ j : Nat, 1 ≤ j ∧ j ≤ s.size ∧ ri = .int .i64 j) (fun ri => s.size - (RowKit.intOf ri).toNat)
    case atStart => exact ⟨1, Nat.le_refl _, by omega, rfl⟩
    case round =>
      obtain ⟨j, hj1, hj, rfl⟩ := hrel
      by_cases hlt : j < s.size
      · have hjs : j < s.size := by omega
        have hjs' : (j : Int) < s.size := by omega
        have hne := HNO.out j hjs hj1
        have hne' : (((s[j]'hjs).toNat : Int) == 33) = false := by rw [u8_33]; exact decide_eq_false hne
        clear FN2 FN TD hne
        go_wp2
        go_round
        case rel => exact ⟨j + 1, by omega, by omega, by go_num⟩
        case measure => simp [RowKit.intOf]; omega
      · obtain rfl : j = s.size := by omega
        clear FN TD HNO
        go_wp2_with (first | (go_at_call 24; refine FN2.mono ?_; rintro e w2 ⟨rfl, rfl⟩))
        go_ret2
        exact ⟨rfl, hB1⟩
  | some q =>
    unfold optV at FN
    simp only [Option.getD, Option.isSome] at FN
    unfold whoV fndR
    dsimp only
    have AD : ∀ W, (Op.stringOp .add q (s.extract 1 s.size)).run Try.prog W = .ok (.string (q ++ s.extract 1 s.size)) W := fun W => run_string_add_sum W q _ (by have := hq q rfl; simp; omega)
    clear hq
    go_enter Try.func9, Try.ntmps9
    go_wp2_with (first | (go_at_call 23; refine TD.mono ?_; rintro e w1 ⟨rfl, hB1⟩))
    have FN2 := FN.out w1 hB1
    go_loop [6] (fun ri => ∃ j : Nat, 1 ≤ j ∧ j ≤ s.size ∧ ri = .int .i64 j) (fun ri => s.size - (RowKit.intOf ri).toNat)
    case atStart => exact ⟨1, Nat.le_refl _, by omega, rfl⟩
    case round =>
      obtain ⟨j, hj1, hj, rfl⟩ := hrel
      by_cases hlt : j < s.size
      · have hjs : j < s.size := by omega
        have hjs' : (j : Int) < s.size := by omega
        have hne := HNO.out j hjs hj1
        have hne' : (((s[j]'hjs).toNat : Int) == 33) = false := by rw [u8_33]; exact decide_eq_false hne
        clear FN2 FN TD hne
        go_wp2
        go_round
        case rel => exact ⟨j + 1, by omega, by omega, by go_num⟩
        case measure => simp [RowKit.intOf]; omega
      · obtain rfl : j = s.size := by omega
        clear FN TD HNO
        go_wp2_with (first | (go_at_call 24; refine FN2.mono ?_; rintro e w2 ⟨rfl, rfl⟩))
        go_ret2
        exact ⟨rfl, hB1⟩
end Go.Proofs.Ytmeojnpehmhmoaa
set_option linter.all false
set_option maxRecDepth 100000
namespace Go.Proofs.Ytmeojnpehmhmoaa
open Go.RowKit Go.Shelf Go.Lib

theorem look_mem {D : List Mn} {h q : ByteArray} (e : look D h = some q) : ∃ x ∈ D, x.2 = q := by
  unfold look at e
  obtain ⟨x, hx, rfl⟩ := Option.map_eq_some_iff.1 e
  exact ⟨x, List.mem_of_find?_eq_some hx, rfl⟩
theorem pre_size {D : List Mn} (hq : ∀ x ∈ D, x.2.size ≤ 1000000000000000) {h q : ByteArray} (e : preP h (look D h) = some q) : q.size ≤ 1000000000000000 := by
  unfold preP at e
  cases ho : look D h with
  | some p =>
    rw [ho] at e
    cases e
    obtain ⟨x, hx, rfl⟩ := look_mem ho
    exact hq x hx
  | none =>
    rw [ho] at e
    dsimp only at e
    split at e
    · cases e; decide
    · split at e
      · cases e; decide
      · cases e
theorem byte_at {s : ByteArray} {c : UInt8} {W : List UInt8} (hd : s.data.toList = c :: W) (j : Nat) (hj : j + 1 < s.size) : W[j]? = some (s[j + 1]'hj) := by
  have h1 : s.data.toList[j + 1]? = some (s[j + 1]'hj) := by
    rw [Array.getElem?_toList]
    exact Array.getElem?_eq_getElem hj
  rw [hd] at h1
  simpa using h1
theorem wr_first {s : ByteArray} (h : Wr s) : ∃ W, s.data.toList = 33 :: W := by
  obtain ⟨-, n, h⟩ := h
  cases hd : s.data.toList with
  | nil => rw [hd] at h; cases h
  | cons c W =>
    rw [hd] at h
    unfold tagP at h
    by_cases h0 : (zs (c :: W)).length = 0 ∨ iAt (zs (c :: W)) 0 ≠ 33
    · rw [if_pos h0] at h; cases h
    · have e : iAt (zs (c :: W)) 0 = 33 := by
        apply Classical.byContradiction
        intro hc
        exact h0 (.inr hc)
      have e2 : (c.toNat : Int) = 33 := e
      have : c = 33 := UInt8.toNat_inj.1 (by show c.toNat = 33; omega)
      exact ⟨W, by rw [this]⟩
/-- One answer, and both give it. -/
def Agree (D : List Mn) (s : ByteArray) (r : ByteArray × Int) : Prop :=
  (∀ p w, TelS p (look D) w → Calls Try.prog 8 #[.pointer p, .string s] w fun e w' => e = .returned (whoV r) ∧ Below w.heap.size w w') ∧
  (∀ b base v w, Boxed w b 31 v → OwnH w base v D → Calls Try.prog 9 #[.pointer (some ⟨b, 0, none⟩), .string s] w fun e w' => e = .returned (whoV r) ∧ Below w.heap.size w w')
theorem whole_both (D : List Mn) (s : ByteArray) (hs : s.size ≤ 100000) (hD : D.length ≤ 50) (hq : ∀ x ∈ D, x.2.size ≤ 1000000000000000) : ∃ r, Agree D s r := by
  by_cases hn : s.toList = [] ∨ s.toList = [33]
  · exact ⟨(s, 0), fun p w _ => (Whole_none p s w hn).mono fun e w' ⟨h1, h2⟩ => ⟨h1, h2 ▸ Below.refl _ _⟩, fun b base v w _ _ => (rWhole_none _ s w hn).mono fun e w' ⟨h1, h2⟩ => ⟨h1, h2 ▸ Below.refl _ _⟩⟩
  have hne1 : s.toList ≠ [] := fun h => hn (.inl h)
  have hne2 : s.toList ≠ [33] := fun h => hn (.inr h)
  have h1 : s.toList.isEmpty = false := by
    cases h : s.toList with
    | nil => exact absurd h hne1
    | cons a b => rfl
  have h2 : (s.toList == [33]) = false := by simpa using hne2
  rw [tlD] at hne1
  cases hd : s.data.toList with
  | nil => exact absurd hd hne1
  | cons c W =>
    obtain ⟨h0, hb0⟩ := byte0 hd
    by_cases hc : c.toNat = 60
    · have hc60 : c = 60 := UInt8.toNat_inj.1 (by show c.toNat = 60; omega)
      subst hc60
      have h3 : (s[0]'h0).toNat = 60 := by rw [hb0]; rfl
      cases hv : validB (s.extract 1 s.size) with
      | true =>
        refine ⟨(s.extract 1 s.size, 0), fun p w _ => Whole_angle p s w h1 h2 h0 h3 (by omega) hv, fun b base v w _ _ => ?_⟩
        have TD := rtold_lt s W w hs hd
        rw [hv] at TD
        exact rWhole_angle _ s w h1 h2 h0 h3 TD
      | false =>
        have hw : wrtB s = false := by
          rw [← Bool.not_eq_true, wrt_iff]
          intro h
          obtain ⟨W', e⟩ := wr_first h
          rw [hd] at e
          injection e with e
          revert e
          decide
        refine ⟨(⟨#[]⟩, 11), fun p w _ => Whole_angleNot p s w h1 h2 h0 h3 (by omega) hv hw, fun b base v w _ _ => ?_⟩
        have TD := rtold_lt s W w hs hd
        rw [hv] at TD
        exact rWhole_not _ s w h1 h2 TD
    · have h3 : ((((s[0]'h0).toNat : Nat) : Int) == 60) = false := by
        rw [hb0, beq_eq_false_iff_ne]
        intro e
        exact hc (by omega)
      have TD0 := fun w => rtold_ne s c W w hs hd hc
      cases hw : wrtB s with
      | false =>
        refine ⟨(⟨#[]⟩, 11), fun p w _ => Whole_not p s w h1 h2 h0 h3 (by omega) hw, fun b base v w _ _ => ?_⟩
        have TD := TD0 w
        rw [hw] at TD
        exact rWhole_not _ s w h1 h2 TD
      | true =>
        rw [hw] at TD0
        obtain ⟨W', e⟩ := wr_first ((wrt_iff s).1 hw)
        rw [hd] at e
        injection e with e1 e2
        subst e1
        subst e2
        have hsz : s.size = W.length + 1 := by rw [sizeD, hd]; simp
        have hex : (s.extract 1 s.size).data.toList = W := by rw [exD, hd]; rfl
        have hge := Lib.indexByte_ge W 33
        by_cases hx : Lib.indexByte W 33 = -1
        · have hno : ∀ j (hj : j < s.size), 1 ≤ j → s[j] ≠ 33 := by
            intro j hj hj1 e
            obtain ⟨i, rfl⟩ : ∃ i, j = i + 1 := ⟨j - 1, by omega⟩
            have := byte_at hd i hj
            rw [e] at this
            exact Lib.indexByte_none hx i this
          have hk : hszP s = (1 : Nat) := by unfold hszP; rw [hex, hx]; rfl
          have hxl : Lib.indexByte (s.extract 1 s.size).data.toList 33 ≤ 1000000 := by rw [hex, hx]; omega
          have eh : s.extract 0 1 = ⟨#[33]⟩ := ba_eq (by rw [exT, hd]; rfl)
          refine ⟨fndR (preP ⟨#[33]⟩ (look D ⟨#[33]⟩)) (s.extract 1 s.size), fun p w hT => ?_, fun b base v w hb hO => rWhole_one b base v D s _ w h1 h2 h0 h3 (by omega) hno hb hO hD rfl (fun q e => pre_size hq e) (TD0 w)⟩
          cases ho : preP ⟨#[33]⟩ (look D ⟨#[33]⟩) with
          | none => exact Whole_unknown p s (look D) w h1 h2 h0 h3 (by omega) hw 1 hk (by omega) hxl hT (by rw [eh]; exact ho)
          | some q => exact Whole_known p s q (look D) w h1 h2 h0 h3 (by omega) hw 1 hk (by omega) hxl hT (by rw [eh]; exact ho) (pre_size hq ho)
        · obtain ⟨i, hi⟩ : ∃ i : Nat, Lib.indexByte W 33 = i := ⟨(Lib.indexByte W 33).toNat, by omega⟩
          obtain ⟨ha, hb'⟩ := Lib.indexByte_some hi
          have hiW : i < W.length := (List.getElem?_eq_some_iff.1 ha).1
          have hat : s[i + 1]'(by omega) = 33 := by
            have := byte_at hd i (by omega)
            rw [ha] at this
            injection this with this
            exact this.symm
          have hno : ∀ j (hj : j < s.size), 1 ≤ j → j < i + 1 → s[j] ≠ 33 := by
            intro j hj hj1 hj2 e
            obtain ⟨m, rfl⟩ : ∃ m, j = m + 1 := ⟨j - 1, by omega⟩
            have := byte_at hd m hj
            rw [e] at this
            exact hb' m (by omega) this
          have hk : hszP s = (i + 1 + 1 : Nat) := by
            unfold hszP
            rw [hex, hi, if_pos (by omega)]
            omega
          have hxl : Lib.indexByte (s.extract 1 s.size).data.toList 33 ≤ 1000000 := by rw [hex, hi]; omega
          refine ⟨fndR (preP (s.extract 0 (i + 1 + 1)) (look D (s.extract 0 (i + 1 + 1)))) (s.extract (i + 1 + 1) s.size), fun p w hT => ?_, fun b base v w hb hO => rWhole_two b base v D s (i + 1) _ w h1 h2 h0 h3 (by omega) (by omega) (by omega) hat hno hb hO hD rfl (fun q e => pre_size hq e) (TD0 w)⟩
          cases ho : preP (s.extract 0 (i + 1 + 1)) (look D (s.extract 0 (i + 1 + 1))) with
          | none => exact Whole_unknown p s (look D) w h1 h2 h0 h3 (by omega) hw (i + 1 + 1) hk (by omega) hxl hT ho
          | some q => exact Whole_known p s q (look D) w h1 h2 h0 h3 (by omega) hw (i + 1 + 1) hk (by omega) hxl hT ho (pre_size hq ho)
end Go.Proofs.Ytmeojnpehmhmoaa
