/- What stands for a handle. -/
import Derived.Test.YtmeojnpehmhmoaaShl
set_option linter.all false
set_option maxRecDepth 100000
namespace Go.Proofs.Ytmeojnpehmhmoaa
open Go.RowKit

def optV (o : Option ByteArray) : Value := .tuple #[.string (o.getD ⟨#[]⟩), .bool o.isSome]
def yamlS : ByteArray := ⟨#[116, 97, 103, 58, 121, 97, 109, 108, 46, 111, 114, 103, 44, 50, 48, 48, 50, 58]⟩
def preP (h : ByteArray) (o : Option ByteArray) : Option ByteArray :=
  match o with
  | some p => some p
  | none => if h.toList = [33] then some ⟨#[33]⟩ else if h.toList = [33, 33] then some yamlS else none
set_option maxHeartbeats 1000000 in
theorem prefix_any (p : Option Addr) (h : ByteArray) (o : Option ByteArray) (w : World)
    (TD : Calls Try.prog 14 #[.pointer p, .string h] w fun e w' => e = .returned (optV o) ∧ Below w.heap.size w w') :
    Calls Try.prog 22 #[.pointer p, .string h] w fun e w' => e = .returned (optV (preP h o)) ∧ Below w.heap.size w w' := by
  cases o with
  | some q =>
    simp only [optV, preP, Option.getD, Option.isSome] at TD ⊢
    go_enter Try.func22, Try.ntmps22
    go_wp2_with (go_at_call 14; refine TD.mono ?_; rintro e w' ⟨rfl, hb⟩)
    go_ret2
    exact ⟨rfl, hb⟩
  | none =>
    have H1 : Hid (optV (preP h none) = .tuple #[.string ((if h.toList = [33] then some ⟨#[33]⟩ else if h.toList = [33, 33] then some yamlS else none : Option ByteArray).getD ⟨#[]⟩), .bool ((if h.toList = [33] then some ⟨#[33]⟩ else if h.toList = [33, 33] then some yamlS else none : Option ByteArray).isSome)]) := rfl
    generalize optV (preP h none) = R at H1 ⊢
    simp only [optV, preP, Option.getD, Option.isSome] at TD
    go_enter Try.func22, Try.ntmps22
    go_wp2_with (go_at_call 14; refine TD.mono ?_; rintro e w' ⟨rfl, hb⟩)
    all_goals go_ret2
    all_goals (refine ⟨?_, hb⟩; rw [H1.out]; simp_all [yamlS])

def hszP (s : ByteArray) : Int := if 0 ≤ Lib.indexByte (s.extract 1 s.size).data.toList 33 then Lib.indexByte (s.extract 1 s.size).data.toList 33 + 2 else 1
set_option maxHeartbeats 1000000 in
theorem handleSize_any (s : ByteArray) (w : World) (h1 : 1 ≤ s.size) (hs : s.size ≤ 1000000) (hx : Lib.indexByte (s.extract 1 s.size).data.toList 33 ≤ 1000000) :
    Calls Try.prog 21 #[.string s] w fun e w' => e = .returned (.int .i64 (hszP s)) ∧ w' = w := by
  have H := index_any (s.extract 1 s.size) 33 w
  have e1 : (33 : Int).toNat.toUInt8 = 33 := by decide
  rw [e1] at H
  unfold hszP
  have h2 : (1 : Int) ≤ s.size := by omega
  generalize Lib.indexByte (s.extract 1 s.size).data.toList 33 = k at H hx ⊢
  by_cases hk : 0 ≤ k
  · rw [if_pos hk]
    have hw : IntKind.i64.wrap (k + 2) = k + 2 := by simp [IntKind.wrap, IntKind.bits, IntKind.signed]; omega
    go_enter Try.func21, Try.ntmps21
    go_wp2_with (go_at_call 41; refine H.mono ?_; rintro e w' ⟨rfl, rfl⟩)
    go_ret
    exact ⟨rfl, rfl⟩
  · rw [if_neg hk]
    go_enter Try.func21, Try.ntmps21
    go_wp2_with (go_at_call 41; refine H.mono ?_; rintro e w' ⟨rfl, rfl⟩)
    go_ret
    exact ⟨rfl, rfl⟩
end Go.Proofs.Ytmeojnpehmhmoaa
