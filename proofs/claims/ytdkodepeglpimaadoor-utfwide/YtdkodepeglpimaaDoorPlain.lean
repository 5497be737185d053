/- Plain facts on numbers, of no program: what or-ing shifted bytes comes to. -/
import Derived.Laws.BitsAllLaws
namespace Go.Proofs.YtdkodepeglpimaaDoor
open Go

theorem or_mul (a b i m : Nat) (hm : m = 2 ^ i) (h : a < m) : (b * m) ||| a = b * m + a := by
  subst hm
  rw [← Nat.shiftLeft_eq, Nat.shiftLeft_add_eq_or_of_lt h]

theorem ofInt_i64 (a : Nat) (ha : a < 4294967296) : (BitVec.ofInt 64 (a : Int)).toNat = a := by
  rw [BitVec.ofInt_natCast, BitVec.toNat_ofNat]; exact Nat.mod_eq_of_lt (by omega)

theorem i64_or_nat (a b : Nat) (ha : a < 4294967296) (hb : b < 4294967296) : bits .or .i64 (a : Int) (b : Int) = ((a ||| b : Nat) : Int) := by
  have hx : a ||| b < 2 ^ 32 := Nat.or_lt_two_pow (by omega) (by omega)
  show IntKind.i64.wrap ((BitVec.ofInt 64 (a : Int) ||| BitVec.ofInt 64 (b : Int)).toNat : Int) = _
  rw [BitVec.toNat_or, ofInt_i64 a ha, ofInt_i64 b hb]
  simp [IntKind.wrap, IntKind.bits, IntKind.signed]
  split <;> omega

theorem or16 (x0 x1 : Nat) (h0 : x0 < 256) (h1 : x1 < 256) : bits .or .i64 ((x0 : Int) * 256) (x1 : Int) = (x0 : Int) * 256 + x1 := by
  rw [show ((x0 : Int) * 256) = ((x0 * 256 : Nat) : Int) from by omega, i64_or_nat _ _ (by omega) (by omega), or_mul x1 x0 8 256 (by decide) h1]
  omega

theorem or32 (x0 x1 x2 x3 : Nat) (h0 : x0 < 256) (h1 : x1 < 256) (h2 : x2 < 256) (h3 : x3 < 256) :
    bits .or .u32 (bits .or .u32 (bits .or .u32 ((x0 : Int) * 16777216) ((x1 : Int) * 65536)) ((x2 : Int) * 256)) (x3 : Int) = (x0 : Int) * 16777216 + x1 * 65536 + x2 * 256 + x3 := by
  rw [show ((x0 : Int) * 16777216) = ((x0 * 16777216 : Nat) : Int) from by omega, show ((x1 : Int) * 65536) = ((x1 * 65536 : Nat) : Int) from by omega, show ((x2 : Int) * 256) = ((x2 * 256 : Nat) : Int) from by omega]
  rw [u32_or_nat _ _ (by omega) (by omega), or_mul (x1 * 65536) x0 24 16777216 (by decide) (by omega)]
  rw [u32_or_nat _ _ (by omega) (by omega), show x0 * 16777216 + x1 * 65536 = (x0 * 256 + x1) * 65536 from by omega, or_mul (x2 * 256) _ 16 65536 (by decide) (by omega)]
  rw [u32_or_nat _ _ (by omega) (by omega), show (x0 * 256 + x1) * 65536 + x2 * 256 = (x0 * 65536 + x1 * 256 + x2) * 256 from by omega, or_mul x3 _ 8 256 (by decide) h3]
  omega
end Go.Proofs.YtdkodepeglpimaaDoor
