/- Scope.Whole, whatever the Scope was told. -/
import Derived.Test.YtmeojnpehmhmoaaIsw
import Derived.Test.YtmeojnpehmhmoaaPre
import Derived.Test.YtmeojnpehmhmoaaDec
import Derived.Laws.Concat
set_option linter.all false
set_option maxRecDepth 100000
namespace Go.Proofs.Ytmeojnpehmhmoaa
open Go.RowKit Go.Shelf Go.Lib

def validB (s : ByteArray) : Bool := decide (0 < s.size ∧ runE (uN (zs s.data.toList)) s.size 0 = s.size)
def whoV (r : ByteArray × Int) : Value := .tuple #[.string r.1, .int .i64 r.2]
set_option maxHeartbeats 800000 in
theorem Whole_none (p : Option Addr) (s : ByteArray) (w : World) (h : s.toList = [] ∨ s.toList = [33]) :
    Calls Try.prog 8 #[.pointer p, .string s] w fun e w' => e = .returned (whoV (s, 0)) ∧ w' = w := by
  unfold whoV
  rcases h with h | h
  · go_enter Try.func8, Try.ntmps8
    go_wp2
    all_goals go_ret2
    all_goals exact ⟨rfl, rfl⟩
  · have h1 : s.toList.isEmpty = false := by rw [h]; rfl
    go_enter Try.func8, Try.ntmps8
    go_wp2
    all_goals go_ret2
    all_goals exact ⟨rfl, rfl⟩
set_option maxHeartbeats 800000 in
theorem Whole_angle (p : Option Addr) (s : ByteArray) (w : World) (h1 : s.toList.isEmpty = false) (h2 : (s.toList == [33]) = false) (h0 : 0 < s.size) (h3 : (s[0]'h0).toNat = 60) (hs : s.size ≤ 1000000) (hv : validB (s.extract 1 s.size) = true) :
    Calls Try.prog 8 #[.pointer p, .string s] w fun e w' => e = .returned (whoV (s.extract 1 s.size, 0)) ∧ Below w.heap.size w w' := by
  unfold whoV
  have hs1 : (1 : Int) ≤ s.size := by omega
  have VA := Valid_any (s.extract 1 s.size) w (by simp; omega)
  have e1 : decide (0 < (s.extract 1 s.size).size ∧ runE (uN (zs (s.extract 1 s.size).data.toList)) (s.extract 1 s.size).size 0 = (s.extract 1 s.size).size) = true := hv
  rw [e1] at VA
  clear e1 hv
  have h4 : s.size ≠ 0 := by omega
  go_enter Try.func8, Try.ntmps8
  go_wp2_with (first | (go_at_call 19; refine VA.mono ?_; rintro e w1 ⟨rfl, hb⟩))
  go_ret2
  exact ⟨rfl, hb⟩
set_option maxHeartbeats 800000 in
theorem Whole_angleNot (p : Option Addr) (s : ByteArray) (w : World) (h1 : s.toList.isEmpty = false) (h2 : (s.toList == [33]) = false) (h0 : 0 < s.size) (h3 : (s[0]'h0).toNat = 60) (hs : s.size ≤ 1000000) (hv : validB (s.extract 1 s.size) = false) (hw : wrtB s = false) :
    Calls Try.prog 8 #[.pointer p, .string s] w fun e w' => e = .returned (whoV (⟨#[]⟩, 11)) ∧ Below w.heap.size w w' := by
  unfold whoV
  have hs1 : (1 : Int) ≤ s.size := by omega
  have VA := Valid_any (s.extract 1 s.size) w (by simp; omega)
  have e1 : decide (0 < (s.extract 1 s.size).size ∧ runE (uN (zs (s.extract 1 s.size).data.toList)) (s.extract 1 s.size).size 0 = (s.extract 1 s.size).size) = false := hv
  rw [e1] at VA
  clear e1 hv
  have IW := fun W => isWritten_any s W hs
  rw [hw] at IW
  clear hw
  have h4 : s.size ≠ 0 := by omega
  go_enter Try.func8, Try.ntmps8
  go_wp2_with (first | (go_at_call 19; refine VA.mono ?_; rintro e w1 ⟨rfl, hb⟩) | (go_at_call 20; refine (IW _).mono ?_; rintro e w2 ⟨rfl, hb2⟩))
  go_ret2
  exact ⟨rfl, hb.trans (hb2.mono hb.size)⟩
set_option maxHeartbeats 800000 in
theorem Whole_not (p : Option Addr) (s : ByteArray) (w : World) (h1 : s.toList.isEmpty = false) (h2 : (s.toList == [33]) = false) (h0 : 0 < s.size) (h3 : ((((s[0]'h0).toNat : Nat) : Int) == 60) = false) (hs : s.size ≤ 1000000) (hw : wrtB s = false) :
    Calls Try.prog 8 #[.pointer p, .string s] w fun e w' => e = .returned (whoV (⟨#[]⟩, 11)) ∧ Below w.heap.size w w' := by
  unfold whoV
  have IW := fun W => isWritten_any s W hs
  rw [hw] at IW
  clear hw
  have h4 : s.size ≠ 0 := by omega
  go_enter Try.func8, Try.ntmps8
  go_wp2_with (first | (go_at_call 20; refine (IW _).mono ?_; rintro e w2 ⟨rfl, hb2⟩))
  go_ret2
  exact ⟨rfl, hb2⟩
/-- What a Scope tells of each handle. -/
def TelS (p : Option Addr) (fd : ByteArray → Option ByteArray) (w : World) : Prop :=
  ∀ (h : ByteArray) (W : World), h.size ≤ 1000000 → Below w.heap.size w W → Calls Try.prog 14 #[.pointer p, .string h] W fun e w' => e = .returned (optV (fd h)) ∧ Below W.heap.size W w'
set_option maxHeartbeats 800000 in
theorem Whole_unknown (p : Option Addr) (s : ByteArray) (fd : ByteArray → Option ByteArray) (w : World) (h1 : s.toList.isEmpty = false) (h2 : (s.toList == [33]) = false) (h0 : 0 < s.size) (h3 : ((((s[0]'h0).toNat : Nat) : Int) == 60) = false) (hs : s.size ≤ 1000000) (hw : wrtB s = true)
    (k : Nat) (hk : hszP s = k) (hks : k ≤ s.size) (hx : Lib.indexByte (s.extract 1 s.size).data.toList 33 ≤ 1000000) (TD : TelS p fd w) (hf : preP (s.extract 0 k) (fd (s.extract 0 k)) = none) :
    Calls Try.prog 8 #[.pointer p, .string s] w fun e w' => e = .returned (whoV (⟨#[]⟩, 11)) ∧ Below w.heap.size w w' := by
  unfold whoV
  have IW := isWritten_any s w hs
  rw [hw] at IW
  clear hw
  have HS := fun W => handleSize_any s W h0 hs hx
  rw [hk] at HS
  have PR := fun W hb => prefix_any p (s.extract 0 k) _ W (TD (s.extract 0 k) W (by simp; omega) hb)
  rw [hf] at PR
  simp only [optV, Option.getD, Option.isSome] at PR
  have hk2 : (k : Int) ≤ s.size := by omega
  have h4 : s.size ≠ 0 := by omega
  clear TD hk hx hf
  go_enter Try.func8, Try.ntmps8
  go_wp2_with (first | (go_at_call 20; refine IW.mono ?_; rintro e w2 ⟨rfl, hb2⟩) | (go_at_call 21; refine (HS _).mono ?_; rintro e w2 ⟨rfl, rfl⟩) | (go_at_call 22; refine (PR _ hb2).mono ?_; rintro e w3 ⟨rfl, hb3⟩))
  go_ret2
  exact ⟨rfl, hb2.trans (hb3.mono hb2.size)⟩
set_option maxHeartbeats 800000 in
theorem Whole_known (p : Option Addr) (s q : ByteArray) (fd : ByteArray → Option ByteArray) (w : World) (h1 : s.toList.isEmpty = false) (h2 : (s.toList == [33]) = false) (h0 : 0 < s.size) (h3 : ((((s[0]'h0).toNat : Nat) : Int) == 60) = false) (hs : s.size ≤ 1000000) (hw : wrtB s = true)
    (k : Nat) (hk : hszP s = k) (hks : k ≤ s.size) (hx : Lib.indexByte (s.extract 1 s.size).data.toList 33 ≤ 1000000) (TD : TelS p fd w) (hf : preP (s.extract 0 k) (fd (s.extract 0 k)) = some q) (hq : q.size ≤ 1000000000000000) :
    Calls Try.prog 8 #[.pointer p, .string s] w fun e w' => e = .returned (whoV (q ++ s.extract k s.size, 0)) ∧ Below w.heap.size w w' := by
  unfold whoV
  have IW := isWritten_any s w hs
  rw [hw] at IW
  clear hw
  have HS := fun W => handleSize_any s W h0 hs hx
  rw [hk] at HS
  have PR := fun W hb => prefix_any p (s.extract 0 k) _ W (TD (s.extract 0 k) W (by simp; omega) hb)
  rw [hf] at PR
  simp only [optV, Option.getD, Option.isSome] at PR
  have hk2 : (k : Int) ≤ s.size := by omega
  have h4 : s.size ≠ 0 := by omega
  have AD : ∀ W, (Op.stringOp .add q (s.extract k s.size)).run Try.prog W = .ok (.string (q ++ s.extract k s.size)) W := fun W => run_string_add_sum W q (s.extract k s.size) (by simp; omega)
  clear TD hk hx hf
  go_enter Try.func8, Try.ntmps8
  go_wp2_with (first | (go_at_call 20; refine IW.mono ?_; rintro e w2 ⟨rfl, hb2⟩) | (go_at_call 21; refine (HS _).mono ?_; rintro e w2 ⟨rfl, rfl⟩) | (go_at_call 22; refine (PR _ hb2).mono ?_; rintro e w3 ⟨rfl, hb3⟩))
  go_ret2
  exact ⟨rfl, hb2.trans (hb3.mono hb2.size)⟩
end Go.Proofs.Ytmeojnpehmhmoaa
