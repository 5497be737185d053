/- The state between two appended bytes of UtfWide's walk; what is told at its end. -/
import Derived.Test.YtdkodepeglpimaaDoorWideP
set_option linter.unusedVariables false
set_option linter.unusedSimpArgs false
namespace Go.Proofs.YtdkodepeglpimaaDoor
open Go.RowKit Go.Shelf

def RW (w : World) (G U : Nat) (AA us XS B : List Int) (v : Value) (wx : World) : Prop :=
  wx.ownsRow w.heap.size 5 1 v (XS.length + B.length) (XS.map (.int .u8) ++ B.map (.int .u8)) ∧ Held wx G AA ∧ Held wx U us ∧ Below w.heap.size w wx

theorem RW.start {w wx : World} {G U : Nat} {AA us XS : List Int} {v : Value} (hr : wx.ownsRow w.heap.size 5 1 v XS.length (XS.map (.int .u8))) (hG : Held wx G AA) (hU : Held wx U us) (hB : Below w.heap.size w wx) : RW w G U AA us XS [] v wx :=
  ⟨by simpa using hr, hG, hU, hB⟩

theorem RW.step {w wx w1 : World} {G U : Nat} {AA us XS B : List Int} {v v' : Value} {tmp : Obj} {x : Int} (y : Int) (h : RW w G U AA us XS B v wx)
    (ho : w1.ownsRow w.heap.size 5 1 v' (XS.length + B.length + 1) ((XS.map (.int .u8) ++ B.map (.int .u8)) ++ [.int .u8 x])) (hg : (wx.alloc tmp).grownBy w1 v.ownBlock) (hx : x = y) : RW w G U AA us XS (B ++ [y]) v' w1 := by
  obtain ⟨hr, hG, hU, hB⟩ := h
  subst hx
  refine ⟨?_, hG.appended hr hg, hU.appended hr hg, (hB.alloc hB.size tmp).grown hg (by have := hB.size; simp; omega) (fun j e => (hr.lt j e).1)⟩
  have e1 : XS.length + (B ++ [x]).length = XS.length + B.length + 1 := by simp; omega
  have e2 : XS.map (Value.int .u8) ++ (B ++ [x]).map (Value.int .u8) = (XS.map (.int .u8) ++ B.map (.int .u8)) ++ [.int .u8 x] := by simp
  rw [e1, e2]
  exact ho

theorem RW.whole {w wx : World} {G U : Nat} {AA us XS B : List Int} {v : Value} (h : RW w G U AA us XS B v wx) : wx.ownsRow w.heap.size 5 1 v (XS ++ B).length ((XS ++ B).map (.int .u8)) ∧ Held wx G AA ∧ Below w.heap.size w wx := by
  obtain ⟨hr, hG, hU, hB⟩ := h
  exact ⟨by simpa using hr, hG, hB⟩

theorem take_step (f : Int → List Int) (AA : List Int) (k : Nat) (hk : k < AA.length) : (AA.take (k + 1)).flatMap f = (AA.take k).flatMap f ++ f (iAt AA k) := by
  rw [List.take_add_one, List.flatMap_append]
  unfold iAt
  simp [hk]

theorem and1023 (x : Int) (h0 : 0 ≤ x) (h : x < 4294967296) : bits .and .i64 x 1023 = x % 1024 := by
  obtain ⟨n, rfl⟩ := Int.eq_ofNat_of_zero_le h0
  have := i64_and_nat n 1023 (by omega) (by omega)
  rw [show n &&& 1023 = n % 1024 from Nat.and_two_pow_sub_one_eq_mod n 10] at this
  rw [show ((1023 : Int)) = ((1023 : Nat) : Int) from rfl, this]
  omega

/-- What Points tells of the row. -/
theorem points_w (four great : Bool) (l AA : List Int) (hAA : 65279 :: l = AA) (hn : (l.length : Int) ≤ 300) (hok : ∀ j, j < AA.length → badW (iAt AA j) j = false) (v : Value) (base n : Nat) (W W0 : World) (hT : Lib.Utf8Tabs 0 1 W) (h1 : 1 < W.heap.size) (hB0 : Below W0.heap.size W0 W)
    (h : W.ownsRow base 5 1 v n ((AA.flatMap (encW four great)).map (.int .u8))) :
    Calls Tryd.prog 9 #[v] W fun e w' => ∃ a c, e = .returned (.tuple #[.slice a l.length c, .int .i64 0]) ∧ Is w' a l ∧ Below W0.heap.size W0 w' := by
  subst hAA
  obtain ⟨a, k, c, rfl⟩ := ownsRow_form h
  have hlt := h.lt
  obtain ⟨hB, hk, -, hkc, hcm⟩ := bs_of_row (encsW_byte four great _) h
  have P := Points_any a (((65279 :: l).flatMap (encW four great)).map toB) c W (by rw [List.length_map]; omega) hcm ⟨hB, hT, h1, fun x e _ => by subst e; exact (hlt x.block rfl).2⟩
  rw [List.length_map, ← hk, pts_w four great l hn hok] at P
  refine P.mono ?_
  rintro e w' ⟨v, rfl, ho, hb⟩
  obtain ⟨a', k', c', rfl⟩ := ownsRow_form ho
  obtain ⟨hI, rfl, -, -, -⟩ := is_of_row ho
  exact ⟨a', c', rfl, hI, hB0.trans (hb.mono hB0.size)⟩
end Go.Proofs.YtdkodepeglpimaaDoor
