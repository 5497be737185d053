/- utf.Bytes, and the document's: UTF-8 of any ints. -/
import Derived.Below
import Derived.Test.YtjfeamfchgcblaaDoorYld
set_option linter.unusedVariables false
set_option linter.unusedSimpArgs false
namespace Go.Proofs.YtjfeamfchgcblaaDoor
open Go.RowKit Go.Shelf

theorem or_mul (a b i m : Nat) (hm : m = 2 ^ i) (h : a < m) : (b * m) ||| a = b * m + a := by
  subst hm
  rw [← Nat.shiftLeft_eq, Nat.shiftLeft_add_eq_or_of_lt h]

theorem ofInt_i64 (a : Nat) (ha : a < 4294967296) : (BitVec.ofInt 64 (a : Int)).toNat = a := by
  rw [BitVec.ofInt_natCast, BitVec.toNat_ofNat]; exact Nat.mod_eq_of_lt (by omega)

theorem i64_or_nat (a b : Nat) (ha : a < 4294967296) (hb : b < 4294967296) : bits .or .i64 (a : Int) (b : Int) = ((a ||| b : Nat) : Int) := by
  have hx : a ||| b < 2 ^ 32 := Nat.or_lt_two_pow (by omega) (by omega)
  show IntKind.i64.wrap ((BitVec.ofInt 64 (a : Int) ||| BitVec.ofInt 64 (b : Int)).toNat : Int) = _
  rw [BitVec.toNat_or, ofInt_i64 a ha, ofInt_i64 b hb]
  simp [IntKind.wrap, IntKind.bits, IntKind.signed]
  split <;> omega

theorem i64_and_nat (a b : Nat) (ha : a < 4294967296) (hb : b < 4294967296) : bits .and .i64 (a : Int) (b : Int) = ((a &&& b : Nat) : Int) := by
  have hx : a &&& b < 2 ^ 32 := Nat.and_lt_two_pow _ (by omega)
  show IntKind.i64.wrap ((BitVec.ofInt 64 (a : Int) &&& BitVec.ofInt 64 (b : Int)).toNat : Int) = _
  rw [BitVec.toNat_and, ofInt_i64 a ha, ofInt_i64 b hb]
  simp [IntKind.wrap, IntKind.bits, IntKind.signed]
  split <;> omega
def okP (c : Int) : Bool := decide (0 ≤ c) && decide (c ≤ 1114111) && (decide (c < 55296) || decide (57343 < c))

set_option maxRecDepth 100000 in
set_option maxHeartbeats 400000 in
theorem right_any (c : Int) (w : World) :
    Calls Tryd.prog 51 #[.int .i64 c] w fun e w' => e = .returned (.bool (okP c)) ∧ w' = w := by
  by_cases h0 : 0 ≤ c
  · by_cases h1 : c ≤ 1114111
    · by_cases h2 : c < 55296
      · go_enter Tryd.func51, Tryd.ntmps51
        go_wp2
        go_ret
        exact ⟨ret_bool (by unfold okP; simp [h0, h1, h2]), rfl⟩
      · go_enter Tryd.func51, Tryd.ntmps51
        go_wp2
        all_goals
          go_ret
          exact ⟨ret_bool (by unfold okP; simp [h0, h1, h2]; try omega), rfl⟩
    · go_enter Tryd.func51, Tryd.ntmps51
      go_wp2
      go_ret
      exact ⟨ret_bool (by unfold okP; simp; omega), rfl⟩
  · go_enter Tryd.func51, Tryd.ntmps51
    go_wp2
    go_ret
    exact ⟨ret_bool (by unfold okP; simp; omega), rfl⟩

def fixP (c : Int) : Int := if okP c then c else 65533
theorem fixP_ok (c : Int) : okP (fixP c) = true := by
  unfold fixP
  split
  · assumption
  · decide
theorem okP_range {c : Int} (h : okP c = true) : 0 ≤ c ∧ c ≤ 1114111 ∧ (c < 55296 ∨ 57343 < c) := by unfold okP at h; simp at h; omega

theorem Tryd.info5b : (Tryd.prog.info? 5).map (fun i => (i.zero, i.size, i.bytes)) = some (some (.int .u8 0), 1, 1) := by kernel_rfl

theorem or_top (a m i x : Nat) (hm : m = 2 ^ i) (hm2 : m ≤ 16777216) (h : x < m) (ha : a * m < 4294967296) : bits .or .i64 ((a * m : Nat) : Int) (x : Int) = ((a * m + x : Nat) : Int) := by
  rw [i64_or_nat _ _ ha (by omega), or_mul x a i m hm h]
theorem and_low (c : Nat) (h : c < 4294967296) : bits .and .i64 (c : Int) 63 = ((c % 64 : Nat) : Int) := by
  have := i64_and_nat c 63 h (by omega)
  rw [show c &&& 63 = c % 64 from Nat.and_two_pow_sub_one_eq_mod c 6] at this
  exact this

theorem or192 (x : Int) (h0 : 0 ≤ x) (h : x < 32) : bits .or .i64 192 x = 192 + x := by
  obtain ⟨n, rfl⟩ := Int.eq_ofNat_of_zero_le h0
  have := or_top 6 32 5 n (by decide) (by decide) (by omega) (by omega)
  simpa using this
theorem or224 (x : Int) (h0 : 0 ≤ x) (h : x < 16) : bits .or .i64 224 x = 224 + x := by
  obtain ⟨n, rfl⟩ := Int.eq_ofNat_of_zero_le h0
  have := or_top 14 16 4 n (by decide) (by decide) (by omega) (by omega)
  simpa using this
theorem or240 (x : Int) (h0 : 0 ≤ x) (h : x < 8) : bits .or .i64 240 x = 240 + x := by
  obtain ⟨n, rfl⟩ := Int.eq_ofNat_of_zero_le h0
  have := or_top 30 8 3 n (by decide) (by decide) (by omega) (by omega)
  simpa using this
theorem or128 (x : Int) (h0 : 0 ≤ x) (h : x < 64) : bits .or .i64 128 x = 128 + x := by
  obtain ⟨n, rfl⟩ := Int.eq_ofNat_of_zero_le h0
  have := or_top 2 64 6 n (by decide) (by decide) (by omega) (by omega)
  simpa using this
theorem and63i (x : Int) (h0 : 0 ≤ x) (h : x < 4294967296) : bits .and .i64 x 63 = x % 64 := by
  obtain ⟨n, rfl⟩ := Int.eq_ofNat_of_zero_le h0
  have := and_low n (by omega)
  rw [this]
  omega

theorem cells_new (w : World) (cs : List Value) (t : TypeId) : ∀ (j : Nat) (u : Value), cs[j]? = some u → (w.alloc (.cells cs.toArray t)).cell? ((⟨w.heap.size, 0, none⟩ : Addr).add j) = some u := by
  intro j u hj
  have hp : (⟨w.heap.size, 0, none⟩ : Addr).add j = ⟨w.heap.size, j, none⟩ := by unfold Addr.add; split <;> simp_all
  have h := World.alloc_heap_new w (.cells cs.toArray t)
  rw [hp]
  show (match (w.alloc (.cells cs.toArray t)).heap[w.heap.size]? with | some (.cells c _ _) => c[j]? | _ => none) = some u
  rw [h]
  simpa using hj

def toB (z : Int) : UInt8 := UInt8.ofNat z.toNat
theorem toB_toNat (z : Int) (h0 : 0 ≤ z) (h : z < 256) : ((toB z).toNat : Int) = z := by unfold toB; simp; omega
theorem toB_nat (z : Int) (h0 : 0 ≤ z) (h : z < 256) : (toB z).toNat = z.toNat := by unfold toB; simp; omega
end Go.Proofs.YtjfeamfchgcblaaDoor
