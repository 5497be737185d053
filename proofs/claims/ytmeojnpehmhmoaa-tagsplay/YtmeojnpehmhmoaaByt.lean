/- utf.Bytes, and the document's: UTF-8 of any ints. -/
import Derived.Test.YtmeojnpehmhmoaaShelf
import Derived.Test.YtmeojnpehmhmoaaYld
set_option linter.unusedVariables false
set_option linter.unusedSimpArgs false
namespace Go.Proofs.Ytmeojnpehmhmoaa
open Go.RowKit Go.Shelf

theorem or_mul (a b i m : Nat) (hm : m = 2 ^ i) (h : a < m) : (b * m) ||| a = b * m + a := by
  subst hm
  rw [← Nat.shiftLeft_eq, Nat.shiftLeft_add_eq_or_of_lt h]

theorem ofInt_i64 (a : Nat) (ha : a < 4294967296) : (BitVec.ofInt 64 (a : Int)).toNat = a := by
  rw [BitVec.ofInt_natCast, BitVec.toNat_ofNat]; exact Nat.mod_eq_of_lt (by omega)

theorem i64_or_nat (a b : Nat) (ha : a < 4294967296) (hb : b < 4294967296) : bits .or .i64 (a : Int) (b : Int) = ((a ||| b : Nat) : Int) := by
  have hx : a ||| b < 2 ^ 32 := Nat.or_lt_two_pow (by omega) (by omega)
  show IntKind.i64.wrap ((BitVec.ofInt 64 (a : Int) ||| BitVec.ofInt 64 (b : Int)).toNat : Int) = _
  rw [BitVec.toNat_or, ofInt_i64 a ha, ofInt_i64 b hb]
  simp [IntKind.wrap, IntKind.bits, IntKind.signed]
  split <;> omega

theorem i64_and_nat (a b : Nat) (ha : a < 4294967296) (hb : b < 4294967296) : bits .and .i64 (a : Int) (b : Int) = ((a &&& b : Nat) : Int) := by
  have hx : a &&& b < 2 ^ 32 := Nat.and_lt_two_pow _ (by omega)
  show IntKind.i64.wrap ((BitVec.ofInt 64 (a : Int) &&& BitVec.ofInt 64 (b : Int)).toNat : Int) = _
  rw [BitVec.toNat_and, ofInt_i64 a ha, ofInt_i64 b hb]
  simp [IntKind.wrap, IntKind.bits, IntKind.signed]
  split <;> omega
def half (p : Int) : Bool := decide (55296 ≤ p) && decide (p ≤ 57343)

set_option maxHeartbeats 400000 in
theorem isHalf_any (p : Int) (w : World) :
    Calls Try.prog 97 #[.int .i64 p] w fun e w' => e = .returned (.bool (half p)) ∧ w' = w := by
  go_enter Try.func97, Try.ntmps97
  go_wp2
  · go_ret
    exact ⟨ret_bool (by unfold half; simp [*]), rfl⟩
  · go_ret
    exact ⟨ret_bool (by unfold half; simp; omega), rfl⟩

def okP (c : Int) : Bool := decide (0 ≤ c) && decide (c ≤ 1114111) && (decide (c < 55296) || decide (57343 < c))

set_option maxRecDepth 100000 in
set_option maxHeartbeats 400000 in
theorem right_any (c : Int) (w : World) :
    Calls Try.prog 86 #[.int .i64 c] w fun e w' => e = .returned (.bool (okP c)) ∧ w' = w := by
  by_cases h0 : 0 ≤ c
  · by_cases h1 : c ≤ 1114111
    · by_cases h2 : c < 55296
      · go_enter Try.func86, Try.ntmps86
        go_wp2
        go_ret
        exact ⟨ret_bool (by unfold okP; simp [h0, h1, h2]), rfl⟩
      · go_enter Try.func86, Try.ntmps86
        go_wp2
        all_goals
          go_ret
          exact ⟨ret_bool (by unfold okP; simp [h0, h1, h2]; try omega), rfl⟩
    · go_enter Try.func86, Try.ntmps86
      go_wp2
      go_ret
      exact ⟨ret_bool (by unfold okP; simp; omega), rfl⟩
  · go_enter Try.func86, Try.ntmps86
    go_wp2
    go_ret
    exact ⟨ret_bool (by unfold okP; simp; omega), rfl⟩

def fixP (c : Int) : Int := if okP c then c else 65533
theorem fixP_ok (c : Int) : okP (fixP c) = true := by
  unfold fixP
  split
  · assumption
  · decide
theorem okP_range {c : Int} (h : okP c = true) : 0 ≤ c ∧ c ≤ 1114111 ∧ (c < 55296 ∨ 57343 < c) := by unfold okP at h; simp at h; omega

set_option maxRecDepth 100000 in
set_option maxHeartbeats 400000 in
theorem isPoint_any (c : Int) (w : World) :
    Calls Try.prog 93 #[.int .i64 c] w fun e w' => e = .returned (.bool (okP c)) ∧ w' = w := by
  by_cases h0 : 0 ≤ c
  · by_cases h1 : c ≤ 1114111
    · have hh : okP c = !half c := by unfold okP half; rw [Bool.eq_iff_iff]; simp; omega
      rw [hh]
      cases hf : half c
      · go_enter Try.func93, Try.ntmps93
        go_wp2_with (go_at_call 97; refine (isHalf_any _ _).mono ?_; rintro e w' ⟨rfl, rfl⟩)
        go_ret
        exact ⟨ret_bool (by simp [hf]), rfl⟩
      · go_enter Try.func93, Try.ntmps93
        go_wp2_with (go_at_call 97; refine (isHalf_any _ _).mono ?_; rintro e w' ⟨rfl, rfl⟩)
        go_ret
        exact ⟨ret_bool (by simp [hf]), rfl⟩
    · have hk : okP c = false := by unfold okP; simp; omega
      rw [hk]
      clear hk
      go_enter Try.func93, Try.ntmps93
      go_wp2_with (go_at_call 97; refine (isHalf_any _ _).mono ?_; rintro e w' ⟨rfl, rfl⟩)
      go_ret
      exact ⟨rfl, rfl⟩
  · have hk : okP c = false := by unfold okP; simp; omega
    rw [hk]
    clear hk
    go_enter Try.func93, Try.ntmps93
    go_wp2_with (go_at_call 97; refine (isHalf_any _ _).mono ?_; rintro e w' ⟨rfl, rfl⟩)
    go_ret
    exact ⟨rfl, rfl⟩

def encZ (l : List Int) : List Int := l.flatMap fun c => Lib.encodeRuneZ (fixP c)
theorem encZ_take (l : List Int) (k : Nat) (h : k < l.length) : encZ (l.take (k + 1)) = encZ (l.take k) ++ Lib.encodeRuneZ (fixP (iAt l k)) := by
  have e : iAt l k = l[k] := by unfold iAt; simp [h]
  unfold encZ
  rw [List.take_succ_eq_append_getElem h, List.flatMap_append, e]
  simp
theorem enc_len (c : Int) : (Lib.encodeRuneZ c).length ≤ 4 := by
  unfold Lib.encodeRuneZ
  repeat' split
  all_goals simp
theorem encZ_len (l : List Int) : (encZ l).length ≤ 4 * l.length := by
  induction l with
  | nil => simp [encZ]
  | cons c t ih =>
    have e : encZ (c :: t) = Lib.encodeRuneZ (fixP c) ++ encZ t := rfl
    have := enc_len (fixP c)
    rw [e]
    simp
    omega

theorem rune_cells (c : Int) : Lib.runeCells c = (Lib.encodeRuneZ c).map (.int .u8) := rfl

set_option maxRecDepth 100000 in
set_option maxHeartbeats 1000000 in
theorem bytes_any (p : Option Addr) (l : List Int) (cap : Nat) (w : World) (hl : (l.length : Int) ≤ 1000000) (h : Is w p l) (hpa : ∀ a, p = some a → 0 < l.length → a.block < w.heap.size) :
    Calls Try.prog 83 #[.slice p l.length cap] w fun e w' => ∃ v, e = .returned v ∧ w'.ownsRow w.heap.size 5 1 v (encZ l).length ((encZ l).map (.int .u8)) ∧ Below w.heap.size w w' := by
  go_enter Try.func83, Try.ntmps83
  go_wp2
  go_loopw [3, 8] (fun v i wr => ∃ k : Nat, k ≤ l.length ∧ i = .int .i64 k ∧ wr.ownsRow w.heap.size 5 1 v (encZ (l.take k)).length ((encZ (l.take k)).map (.int .u8)) ∧ Below w.heap.size w wr) (fun _ i _ => l.length - (intOf i).toNat)
  case atStart => exact ⟨0, Nat.zero_le _, rfl, World.ownsRow_nil _ _ _ _, Below.refl _ _⟩
  case round =>
    obtain ⟨k, hk, rfl, hrow, hB⟩ := hrel
    have hBs := hB.size
    by_cases hlt : k < l.length
    · obtain ⟨b, o, rfl, hcl⟩ := h.at (by omega)
      have q0 : wr.cell? ⟨b, o + k, none⟩ = some (.int .i64 (iAt l k)) := (hB.cell (p := ⟨b, o + k, none⟩) (hpa ⟨b, o, none⟩ rfl (by omega))).trans (hcl k hlt)
      have hE := encZ_take l k hlt
      have hn := encZ_len (l.take k)
      rw [List.length_take] at hn
      have hf := okP_range (fixP_ok (iAt l k))
      generalize iAt l k = c at q0 hE hf
      obtain ⟨f, hF⟩ : ∃ f, fixP c = f := ⟨_, rfl⟩
      rw [hF] at hE hf
      obtain ⟨f0, f1, -⟩ := hf
      have A := Try.utf8_AppendRune_plain w.heap.size u3 (encZ (l.take k)).length ((encZ (l.take k)).map (.int .u8)) f (by omega) (by omega) wr hrow (by omega) hBs
      rw [rune_cells, ← List.map_append, ← hE, List.length_map, ← List.length_append, ← hE] at A
      have hlt2 := hrow.lt
      clear hcl h hrow hE hn
      cases ho : okP c
      · obtain rfl : f = 65533 := by rw [← hF]; unfold fixP; rw [ho]; rfl
        clear hF
        go_wp2_with (first | (go_at_call 93; refine (isPoint_any _ _).mono ?_; rintro e w' ⟨rfl, rfl⟩) | (go_at_call 94; refine A.mono ?_; rintro e w1 ⟨v', rfl, ho', oo, hg⟩))
        go_roundw
        case rel => exact ⟨k + 1, by omega, by go_num, ho', (hB.alloc hBs _).grown hg (by simp; omega) (fun j e => (hlt2 j e).1)⟩
        case measure => simp [intOf]; omega
      · obtain rfl : c = f := by rw [← hF]; unfold fixP; rw [ho]; rfl
        clear hF
        go_wp2_with (first | (go_at_call 93; refine (isPoint_any _ _).mono ?_; rintro e w' ⟨rfl, rfl⟩) | (go_at_call 94; refine A.mono ?_; rintro e w1 ⟨v', rfl, ho', oo, hg⟩))
        go_roundw
        case rel => exact ⟨k + 1, by omega, by go_num, ho', (hB.alloc hBs _).grown hg (by simp; omega) (fun j e => (hlt2 j e).1)⟩
        case measure => simp [intOf]; omega
    · obtain rfl : k = l.length := by omega
      rw [List.take_length] at hrow
      go_wp2
      go_ret
      exact ⟨_, rfl, hrow, hB⟩
theorem Try.info5b : (Try.prog.info? 5).map (fun i => (i.zero, i.size, i.bytes)) = some (some (.int .u8 0), 1, 1) := by kernel_rfl

theorem or_top (a m i x : Nat) (hm : m = 2 ^ i) (hm2 : m ≤ 16777216) (h : x < m) (ha : a * m < 4294967296) : bits .or .i64 ((a * m : Nat) : Int) (x : Int) = ((a * m + x : Nat) : Int) := by
  rw [i64_or_nat _ _ ha (by omega), or_mul x a i m hm h]
theorem and_low (c : Nat) (h : c < 4294967296) : bits .and .i64 (c : Int) 63 = ((c % 64 : Nat) : Int) := by
  have := i64_and_nat c 63 h (by omega)
  rw [show c &&& 63 = c % 64 from Nat.and_two_pow_sub_one_eq_mod c 6] at this
  exact this

theorem or192 (x : Int) (h0 : 0 ≤ x) (h : x < 32) : bits .or .i64 192 x = 192 + x := by
  obtain ⟨n, rfl⟩ := Int.eq_ofNat_of_zero_le h0
  have := or_top 6 32 5 n (by decide) (by decide) (by omega) (by omega)
  simpa using this
theorem or224 (x : Int) (h0 : 0 ≤ x) (h : x < 16) : bits .or .i64 224 x = 224 + x := by
  obtain ⟨n, rfl⟩ := Int.eq_ofNat_of_zero_le h0
  have := or_top 14 16 4 n (by decide) (by decide) (by omega) (by omega)
  simpa using this
theorem or240 (x : Int) (h0 : 0 ≤ x) (h : x < 8) : bits .or .i64 240 x = 240 + x := by
  obtain ⟨n, rfl⟩ := Int.eq_ofNat_of_zero_le h0
  have := or_top 30 8 3 n (by decide) (by decide) (by omega) (by omega)
  simpa using this
theorem or128 (x : Int) (h0 : 0 ≤ x) (h : x < 64) : bits .or .i64 128 x = 128 + x := by
  obtain ⟨n, rfl⟩ := Int.eq_ofNat_of_zero_le h0
  have := or_top 2 64 6 n (by decide) (by decide) (by omega) (by omega)
  simpa using this
theorem and63i (x : Int) (h0 : 0 ≤ x) (h : x < 4294967296) : bits .and .i64 x 63 = x % 64 := by
  obtain ⟨n, rfl⟩ := Int.eq_ofNat_of_zero_le h0
  have := and_low n (by omega)
  rw [this]
  omega

theorem cells_new (w : World) (cs : List Value) (t : TypeId) : ∀ (j : Nat) (u : Value), cs[j]? = some u → (w.alloc (.cells cs.toArray t)).cell? ((⟨w.heap.size, 0, none⟩ : Addr).add j) = some u := by
  intro j u hj
  have hp : (⟨w.heap.size, 0, none⟩ : Addr).add j = ⟨w.heap.size, j, none⟩ := by unfold Addr.add; split <;> simp_all
  have h := World.alloc_heap_new w (.cells cs.toArray t)
  rw [hp]
  show (match (w.alloc (.cells cs.toArray t)).heap[w.heap.size]? with | some (.cells c _ _) => c[j]? | _ => none) = some u
  rw [h]
  simpa using hj

set_option maxRecDepth 100000 in
set_option maxHeartbeats 1000000 in
theorem put_one (B n : Nat) (v : Value) (xs : List Value) (c : Int) (w : World) (hok : okP c = true) (h0 : 0 ≤ c) (h1 : c < 128) (hown : w.ownsRow B 5 1 v n xs) (hlen : n ≤ 4000000) (hB : B ≤ w.heap.size) :
    Calls Try.prog 85 #[v, .int .i64 c] w fun e w' => ∃ v', e = .returned v' ∧ w'.ownsRow B 5 1 v' (n + 1) (xs ++ [.int .u8 (c)]) ∧ ∃ o, (w.alloc o).grownBy w' v.ownBlock := by
  obtain ⟨i0, hi, hz0, hz1, hz2⟩ := info_parts Try.info5b
  go_enter Try.func85, Try.ntmps85
  go_wp2_with (first | (go_at_call 86; refine (right_any _ _).mono ?_; rintro e w' ⟨rfl, rfl⟩) | (at_builtin; refine wpList_append_own _ rfl _ _ 69 rfl B 5 i0 (.int .u8 0) 1 1 Try.underlying69 hi hz0 hz1 hz2 rfl (by decide) _ _ _ rfl (hown.alloc _) ⟨w'.heap.size, 0, none⟩ 1 1 [.int .u8 (c)] rfl rfl (cells_new w' _ _) (by simp [Value.oneCell']) (by unfold maxLen; omega) (by omega) (by simp; omega) ?_; intro v' w1 hown' hgrow _))
  go_ret
  exact ⟨_, rfl, hown', _, hgrow⟩

set_option maxRecDepth 100000 in
set_option maxHeartbeats 1000000 in
theorem put_two (B n : Nat) (v : Value) (xs : List Value) (c : Int) (w : World) (hok : okP c = true) (h0 : 128 ≤ c) (h1 : c < 2048) (hown : w.ownsRow B 5 1 v n xs) (hlen : n ≤ 4000000) (hB : B ≤ w.heap.size) :
    Calls Try.prog 85 #[v, .int .i64 c] w fun e w' => ∃ v', e = .returned v' ∧ w'.ownsRow B 5 1 v' (n + 2) (xs ++ [.int .u8 (192 + c / 64), .int .u8 (128 + c % 64)]) ∧ ∃ o, (w.alloc o).grownBy w' v.ownBlock := by
  obtain ⟨i0, hi, hz0, hz1, hz2⟩ := info_parts Try.info5b
  have r1 := or192 (c / 64) (by omega) (by omega)
  have r2 := and63i c (by omega) (by omega)
  have r3 := or128 (c % 64) (by omega) (by omega)
  go_enter Try.func85, Try.ntmps85
  go_wp2_with (first | (go_at_call 86; refine (right_any _ _).mono ?_; rintro e w' ⟨rfl, rfl⟩) | (at_builtin; refine wpList_append_own _ rfl _ _ 69 rfl B 5 i0 (.int .u8 0) 1 1 Try.underlying69 hi hz0 hz1 hz2 rfl (by decide) _ _ _ rfl (hown.alloc _) ⟨w'.heap.size, 0, none⟩ 2 2 [.int .u8 (192 + c / 64), .int .u8 (128 + c % 64)] rfl rfl (cells_new w' _ _) (by simp [Value.oneCell']) (by unfold maxLen; omega) (by omega) (by simp; omega) ?_; intro v' w1 hown' hgrow _))
  go_ret
  exact ⟨_, rfl, hown', _, hgrow⟩

set_option maxRecDepth 100000 in
set_option maxHeartbeats 1000000 in
theorem put_three (B n : Nat) (v : Value) (xs : List Value) (c : Int) (w : World) (hok : okP c = true) (h0 : 2048 ≤ c) (h1 : c < 65536) (hown : w.ownsRow B 5 1 v n xs) (hlen : n ≤ 4000000) (hB : B ≤ w.heap.size) :
    Calls Try.prog 85 #[v, .int .i64 c] w fun e w' => ∃ v', e = .returned v' ∧ w'.ownsRow B 5 1 v' (n + 3) (xs ++ [.int .u8 (224 + c / 4096), .int .u8 (128 + c / 64 % 64), .int .u8 (128 + c % 64)]) ∧ ∃ o, (w.alloc o).grownBy w' v.ownBlock := by
  obtain ⟨i0, hi, hz0, hz1, hz2⟩ := info_parts Try.info5b
  have r1 := or224 (c / 4096) (by omega) (by omega)
  have r2 := and63i c (by omega) (by omega)
  have r3 := or128 (c % 64) (by omega) (by omega)
  have r4 := and63i (c / 64) (by omega) (by omega)
  have r5 := or128 (c / 64 % 64) (by omega) (by omega)
  go_enter Try.func85, Try.ntmps85
  go_wp2_with (first | (go_at_call 86; refine (right_any _ _).mono ?_; rintro e w' ⟨rfl, rfl⟩) | (at_builtin; refine wpList_append_own _ rfl _ _ 69 rfl B 5 i0 (.int .u8 0) 1 1 Try.underlying69 hi hz0 hz1 hz2 rfl (by decide) _ _ _ rfl (hown.alloc _) ⟨w'.heap.size, 0, none⟩ 3 3 [.int .u8 (224 + c / 4096), .int .u8 (128 + c / 64 % 64), .int .u8 (128 + c % 64)] rfl rfl (cells_new w' _ _) (by simp [Value.oneCell']) (by unfold maxLen; omega) (by omega) (by simp; omega) ?_; intro v' w1 hown' hgrow _))
  go_ret
  exact ⟨_, rfl, hown', _, hgrow⟩

set_option maxRecDepth 100000 in
set_option maxHeartbeats 1000000 in
theorem put_four (B n : Nat) (v : Value) (xs : List Value) (c : Int) (w : World) (hok : okP c = true) (h0 : 65536 ≤ c) (h1 : c ≤ 1114111) (hown : w.ownsRow B 5 1 v n xs) (hlen : n ≤ 4000000) (hB : B ≤ w.heap.size) :
    Calls Try.prog 85 #[v, .int .i64 c] w fun e w' => ∃ v', e = .returned v' ∧ w'.ownsRow B 5 1 v' (n + 4) (xs ++ [.int .u8 (240 + c / 262144), .int .u8 (128 + c / 4096 % 64), .int .u8 (128 + c / 64 % 64), .int .u8 (128 + c % 64)]) ∧ ∃ o, (w.alloc o).grownBy w' v.ownBlock := by
  obtain ⟨i0, hi, hz0, hz1, hz2⟩ := info_parts Try.info5b
  have r1 := or240 (c / 262144) (by omega) (by omega)
  have r2 := and63i c (by omega) (by omega)
  have r3 := or128 (c % 64) (by omega) (by omega)
  have r4 := and63i (c / 64) (by omega) (by omega)
  have r5 := or128 (c / 64 % 64) (by omega) (by omega)
  have r6 := and63i (c / 4096) (by omega) (by omega)
  have r7 := or128 (c / 4096 % 64) (by omega) (by omega)
  go_enter Try.func85, Try.ntmps85
  go_wp2_with (first | (go_at_call 86; refine (right_any _ _).mono ?_; rintro e w' ⟨rfl, rfl⟩) | (at_builtin; refine wpList_append_own _ rfl _ _ 69 rfl B 5 i0 (.int .u8 0) 1 1 Try.underlying69 hi hz0 hz1 hz2 rfl (by decide) _ _ _ rfl (hown.alloc _) ⟨w'.heap.size, 0, none⟩ 4 4 [.int .u8 (240 + c / 262144), .int .u8 (128 + c / 4096 % 64), .int .u8 (128 + c / 64 % 64), .int .u8 (128 + c % 64)] rfl rfl (cells_new w' _ _) (by simp [Value.oneCell']) (by unfold maxLen; omega) (by omega) (by simp; omega) ?_; intro v' w1 hown' hgrow _))
  go_ret
  exact ⟨_, rfl, hown', _, hgrow⟩

set_option maxRecDepth 100000 in
set_option maxHeartbeats 1000000 in
theorem put_bad (B n : Nat) (v : Value) (xs : List Value) (c : Int) (w : World) (hok : okP c = false) (hown : w.ownsRow B 5 1 v n xs) (hlen : n ≤ 4000000) (hB : B ≤ w.heap.size) :
    Calls Try.prog 85 #[v, .int .i64 c] w fun e w' => ∃ v', e = .returned v' ∧ w'.ownsRow B 5 1 v' (n + 3) (xs ++ [.int .u8 239, .int .u8 191, .int .u8 189]) ∧ ∃ o, (w.alloc o).grownBy w' v.ownBlock := by
  obtain ⟨i0, hi, hz0, hz1, hz2⟩ := info_parts Try.info5b
  have r1 := or224 15 (by omega) (by omega)
  have r2 := and63i 65533 (by omega) (by omega)
  have r3 := or128 61 (by omega) (by omega)
  have r4 := and63i 1023 (by omega) (by omega)
  have r5 := or128 63 (by omega) (by omega)
  go_enter Try.func85, Try.ntmps85
  go_wp2_with (first | (go_at_call 86; refine (right_any _ _).mono ?_; rintro e w' ⟨rfl, rfl⟩) | (at_builtin; refine wpList_append_own _ rfl _ _ 69 rfl B 5 i0 (.int .u8 0) 1 1 Try.underlying69 hi hz0 hz1 hz2 rfl (by decide) _ _ _ rfl (hown.alloc _) ⟨w'.heap.size, 0, none⟩ 3 3 [.int .u8 239, .int .u8 191, .int .u8 189] rfl rfl (cells_new w' _ _) (by simp [Value.oneCell']) (by unfold maxLen; omega) (by omega) (by simp; omega) ?_; intro v' w1 hown' hgrow _))
  go_ret
  exact ⟨_, rfl, hown', _, hgrow⟩

theorem put_any (B n : Nat) (v : Value) (xs : List Value) (c : Int) (w : World) (hown : w.ownsRow B 5 1 v n xs) (hlen : n ≤ 4000000) (hB : B ≤ w.heap.size) :
    Calls Try.prog 85 #[v, .int .i64 c] w fun e w' => ∃ v', e = .returned v' ∧ w'.ownsRow B 5 1 v' (n + (Lib.encodeRuneZ (fixP c)).length) (xs ++ (Lib.encodeRuneZ (fixP c)).map (.int .u8)) ∧ ∃ o, (w.alloc o).grownBy w' v.ownBlock := by
  cases hok : okP c
  · have e : Lib.encodeRuneZ (fixP c) = [239, 191, 189] := by unfold fixP; rw [hok, if_neg (by simp)]; decide
    rw [e]
    exact put_bad B n v xs c w hok hown hlen hB
  · have ef : fixP c = c := by unfold fixP; rw [hok]; rfl
    obtain ⟨a0, a1, a2⟩ := okP_range hok
    rw [ef]
    by_cases h1 : c < 128
    · rw [Lib.encodeRuneZ_one a0 (by omega)]
      exact put_one B n v xs c w hok a0 h1 hown hlen hB
    by_cases h2 : c < 2048
    · rw [Lib.encodeRuneZ_two (by omega) (by omega)]
      exact put_two B n v xs c w hok (by omega) h2 hown hlen hB
    by_cases h3 : c < 65536
    · rw [Lib.encodeRuneZ_three (by omega)]
      exact put_three B n v xs c w hok (by omega) h3 hown hlen hB
    · rw [Lib.encodeRuneZ_four (by omega) (by omega)]
      exact put_four B n v xs c w hok (by omega) a1 hown hlen hB

set_option maxRecDepth 100000 in
set_option maxHeartbeats 1000000 in
theorem refBytes_any (p : Option Addr) (l : List Int) (cap : Nat) (w : World) (hl : (l.length : Int) ≤ 1000000) (h : Is w p l) (hpa : ∀ a, p = some a → 0 < l.length → a.block < w.heap.size) :
    Calls Try.prog 68 #[.slice p l.length cap] w fun e w' => ∃ v, e = .returned v ∧ w'.ownsRow w.heap.size 5 1 v (encZ l).length ((encZ l).map (.int .u8)) ∧ Below w.heap.size w w' := by
  go_enter Try.func68, Try.ntmps68
  go_wp2
  go_loopw [3, 4] (fun v i wr => ∃ k : Nat, k ≤ l.length ∧ i = .int .i64 k ∧ wr.ownsRow w.heap.size 5 1 v (encZ (l.take k)).length ((encZ (l.take k)).map (.int .u8)) ∧ Below w.heap.size w wr) (fun _ i _ => l.length - (intOf i).toNat)
  case atStart => exact ⟨0, Nat.zero_le _, rfl, World.ownsRow_nil _ _ _ _, Below.refl _ _⟩
  case round =>
    obtain ⟨k, hk, rfl, hrow, hB⟩ := hrel
    have hBs := hB.size
    by_cases hlt : k < l.length
    · obtain ⟨b, o, rfl, hcl⟩ := h.at (by omega)
      have q0 : wr.cell? ⟨b, o + k, none⟩ = some (.int .i64 (iAt l k)) := (hB.cell (p := ⟨b, o + k, none⟩) (hpa ⟨b, o, none⟩ rfl (by omega))).trans (hcl k hlt)
      have hE := encZ_take l k hlt
      have hn := encZ_len (l.take k)
      rw [List.length_take] at hn
      generalize iAt l k = c at q0 hE
      have A := put_any w.heap.size (encZ (l.take k)).length u3 ((encZ (l.take k)).map (.int .u8)) c wr hrow (by omega) hBs
      rw [← List.map_append, ← hE, ← List.length_append, ← hE] at A
      have hlt2 := hrow.lt
      clear hcl h hrow hE hn
      go_wp2_with (go_at_call 85; refine A.mono ?_; rintro e w1 ⟨v', rfl, ho', oo, hg⟩)
      go_roundw
      case rel => exact ⟨k + 1, by omega, by go_num, ho', (hB.alloc hBs _).grown hg (by simp; omega) (fun j e => (hlt2 j e).1)⟩
      case measure => simp [intOf]; omega
    · obtain rfl : k = l.length := by omega
      rw [List.take_length] at hrow
      go_wp2
      go_ret
      exact ⟨_, rfl, hrow, hB⟩
def toB (z : Int) : UInt8 := UInt8.ofNat z.toNat
theorem toB_toNat (z : Int) (h0 : 0 ≤ z) (h : z < 256) : ((toB z).toNat : Int) = z := by unfold toB; simp; omega
theorem toB_nat (z : Int) (h0 : 0 ≤ z) (h : z < 256) : (toB z).toNat = z.toNat := by unfold toB; simp; omega
theorem encZ_byte (l : List Int) : ∀ z, z ∈ encZ l → 0 ≤ z ∧ z < 256 := by
  intro z hz
  unfold encZ at hz
  obtain ⟨c, -, hz⟩ := List.mem_flatMap.1 hz
  obtain ⟨a0, a1, a2⟩ := okP_range (fixP_ok c)
  unfold Lib.encodeRuneZ at hz
  repeat' split at hz
  all_goals (simp at hz; omega)

end Go.Proofs.Ytmeojnpehmhmoaa
