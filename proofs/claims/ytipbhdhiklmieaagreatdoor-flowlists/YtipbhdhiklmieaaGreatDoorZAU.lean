/- The iterator over the signs between single quotes, as it runs. -/
import Derived.Test.YtipbhdhiklmieaaGreatDoorZAT
import Derived.Test.YtipbhdhiklmieaaGreatDoorZAJ
import Derived.Laws.BitsAllLaws
import Derived.Deep.MidRow
set_option linter.all false
set_option maxRecDepth 100000
set_option maxHeartbeats 2000000
namespace Go.Proofs.YtipbhdhiklmieaaGreatDoor
open Go.RowKit Go.Shelf
def endV : Option Nat -> Value
 | none => .tuple #[.int .i64 0, .bool false]
 | some p => .tuple #[.int .i64 (p : Nat), .bool true]
def hexP (c : Int) : Int := if 48 <= c /\ c <= 57 then c - 48 else if 97 <= c /\ c <= 102 then c - 87 else if 65 <= c /\ c <= 70 then c - 55 else -1
theorem or_mul (a b i m : Nat) (hm : m = 2 ^ i) (h : a < m) : (b * m) ||| a = b * m + a := by
 subst hm
 rw [<- Nat.shiftLeft_eq, Nat.shiftLeft_add_eq_or_of_lt h]
theorem ofInt_i64 (a : Nat) (ha : a < 4294967296) : (BitVec.ofInt 64 (a : Int)).toNat = a := by
 rw [BitVec.ofInt_natCast, BitVec.toNat_ofNat]; exact Nat.mod_eq_of_lt (by omega)
theorem i64_or_nat (a b : Nat) (ha : a < 4294967296) (hb : b < 4294967296) : bits .or .i64 (a : Int) (b : Int) = ((a ||| b : Nat) : Int) := by
 have hx : a ||| b < 2 ^ 32 := Nat.or_lt_two_pow (by omega) (by omega)
 show IntKind.i64.wrap ((BitVec.ofInt 64 (a : Int) ||| BitVec.ofInt 64 (b : Int)).toNat : Int) = _
 rw [BitVec.toNat_or, ofInt_i64 a ha, ofInt_i64 b hb]
 simp [IntKind.wrap, IntKind.bits, IntKind.signed]
 split <;> omega
end Go.Proofs.YtipbhdhiklmieaaGreatDoor
namespace Go.Proofs.YtipbhdhiklmieaaGreatDoor.P8
open Go.RowKit Go.Shelf
attribute [local go_sem] Oper.semAt_some
theorem signs1_in (n l Bb cap : Nat) (q : Option Addr) (t : List Int) (hn : t.length <= 8000000000000) (J Jx : Nat -> World -> Prop) (W : World)
  (c1 : W.cell? ⟨Bb, 0, none⟩ = some (.slice q t.length cap)) (hI : Is W q t) (hJ : AbN J)
  (hY : ∀ (m i : Nat) (x : Sg) (W1 : World), (sgP 0 t)[i]? = some x -> J i W1 -> YieldAt Fence.wide m Tryz.prog l (encS x) W1 fun e W' =>
   (e = .returned (.bool true) /\ J (i + 1) W' /\ Kq (Xs q t Bb) W1 W') \/ (e = .returned (.bool false) /\ Jx (i + 1) W')) (h0 : J 0 W) :
  CallsIn Fence.wide n Tryz.prog 176 #[.func (.yield l) #[] #[], .pointer (some ⟨Bb, 0, none⟩)] W fun e W' => (∃ v, e = .returned v) /\ (J (sgP 0 t).length W' \/ ∃ i, Jx i W') := by
 have HY : Hid (∀ (m i : Nat) (x : Sg) (W1 : World), (sgP 0 t)[i]? = some x -> J i W1 -> YieldAt Fence.wide m Tryz.prog l (encS x) W1 fun e W' =>
   (e = .returned (.bool true) /\ J (i + 1) W' /\ Kq (Xs q t Bb) W1 W') \/ (e = .returned (.bool false) /\ Jx (i + 1) W')) := hY
 clear hY
 refine callsIn_of_wp Tryz.func176 rfl trivial ?_ rfl
 simp only [Tryz.ntmps176, frm, Nat.reduceAdd, Nat.reduceSub]
 gi_wp2
 gi_loopw [3] (fun iv wr => ∃ (k i : Nat), k <= t.length /\ i <= (sgP 0 t).length /\ iv = .int .i64 k /\ Hid ((sgP 0 t).drop i = sgP k (t.drop k)) /\ J i wr /\ Kq (Xs q t Bb) W wr) (fun iv _ => t.length - (intOf iv).toNat)
 case atStart => exact ⟨0, 0, Nat.zero_le _, Nat.zero_le _, rfl, rfl, h0, Kq.refl _ _⟩
 case round =>
  obtain ⟨k, i, hk, hi, rfl, Hs, hJr, hkr⟩ := hrel
  have d1 := hkr.box.trans c1
  by_cases hlt : k < t.length
  ·have hli : (k : Int) < t.length := by omega
   obtain ⟨b, o, rfl, hu⟩ := (hkr.is hI).at (by omega)
   have e0 := hu k hlt
   by_cases hq : iAt t k = 39
   ·rw [hq] at e0
    by_cases h2 : k + 1 < t.length
    ·have h2' : (k : Int) + 1 < t.length := by omega
     have e1 := hu (k + 1) h2
     by_cases hq2 : iAt t (k + 1) = 39
     ·rw [hq2] at e1
      obtain ⟨T0, T1, T2⟩ := drop_cons (Hs.out.trans (sg_two h2 hq hq2))
      have HT : Hid (List.drop (i + 1) (sgP 0 t) = sgP (k + 2) (t.drop (k + 2))) := T1
      have H0 : Hid ((sgP 0 t)[i]? = some (k, 39, true)) := T0
      clear hu hI Hs T1 T0
      gi_wp2
      gi_quiet (fail)
      have Y := HY.out (n - 1) i (k, 39, true) (wr.drewN nq) H0.out (hJ _ _ _ hJr (grown_drewN _ _))
      simp only [encS] at Y
      obtain ⟨fn, tmps, assign, body, hy, hR⟩ := Y
      clear HY H0
      gi_wp2
      refine ⟨(fun h => by cases h), hR.mono ?_⟩
      rintro e3 W3 (⟨rfl, hJ3, hk3⟩ | ⟨rfl, hJx3⟩)
      ·clear hR hy
       gi_wp2
       go_roundw
       case rel => exact ⟨k + 2, i + 1, by omega, by omega, by go_num, HT, hJ3, (hkr.trans (Kq.drewN _ _)).trans hk3⟩
       case measure => simp [intOf]; omega
      ·clear hR hy
       gi_wp2
       refine bodyPost_ret (results_none rfl _ _ _) rfl ?_
       exact ⟨⟨_, rfl⟩, .inr ⟨_, hJx3⟩⟩
     ·obtain ⟨T0, T1, T2⟩ := drop_cons (Hs.out.trans (sg_one h2 (fun h => hq2 h.2)))
      rw [hq] at T0
      have hq2' : (iAt t (k + 1) == 39) = false := by simpa using hq2
      generalize iAt t (k + 1) = y at e1 hq2 hq2'
      have HT : Hid (List.drop (i + 1) (sgP 0 t) = sgP (k + 1) (t.drop (k + 1))) := T1
      have H0 : Hid ((sgP 0 t)[i]? = some (k, 39, false)) := T0
      clear hu hI Hs T1 T0
      gi_wp2
      gi_quiet (fail)
      have Y := HY.out (n - 1) i (k, 39, false) (wr.drewN nq) H0.out (hJ _ _ _ hJr (grown_drewN _ _))
      simp only [encS] at Y
      obtain ⟨fn, tmps, assign, body, hy, hR⟩ := Y
      clear HY H0
      gi_wp2
      refine ⟨(fun h => by cases h), hR.mono ?_⟩
      rintro e3 W3 (⟨rfl, hJ3, hk3⟩ | ⟨rfl, hJx3⟩)
      ·clear hR hy
       gi_wp2
       go_roundw
       case rel => exact ⟨k + 1, i + 1, by omega, by omega, by go_num, HT, hJ3, (hkr.trans (Kq.drewN _ _)).trans hk3⟩
       case measure => simp [intOf]; omega
      ·clear hR hy
       gi_wp2
       refine bodyPost_ret (results_none rfl _ _ _) rfl ?_
       exact ⟨⟨_, rfl⟩, .inr ⟨_, hJx3⟩⟩
    ·have h2' : decide ((k : Int) + 1 < t.length) = false := by simp; omega
     obtain ⟨T0, T1, T2⟩ := drop_cons (Hs.out.trans (sg_last hlt h2))
     rw [hq] at T0
     have HT : Hid (List.drop (i + 1) (sgP 0 t) = sgP (k + 1) (t.drop (k + 1))) := T1
     have H0 : Hid ((sgP 0 t)[i]? = some (k, 39, false)) := T0
     clear hu hI Hs T1 T0
     gi_wp2
     gi_quiet (fail)
     have Y := HY.out (n - 1) i (k, 39, false) (wr.drewN nq) H0.out (hJ _ _ _ hJr (grown_drewN _ _))
     simp only [encS] at Y
     obtain ⟨fn, tmps, assign, body, hy, hR⟩ := Y
     clear HY H0
     gi_wp2
     refine ⟨(fun h => by cases h), hR.mono ?_⟩
     rintro e3 W3 (⟨rfl, hJ3, hk3⟩ | ⟨rfl, hJx3⟩)
     ·clear hR hy
      gi_wp2
      go_roundw
      case rel => exact ⟨k + 1, i + 1, by omega, by omega, by go_num, HT, hJ3, (hkr.trans (Kq.drewN _ _)).trans hk3⟩
      case measure => simp [intOf]; omega
     ·clear hR hy
      gi_wp2
      refine bodyPost_ret (results_none rfl _ _ _) rfl ?_
      exact ⟨⟨_, rfl⟩, .inr ⟨_, hJx3⟩⟩
   ·have hq' : (iAt t k == 39) = false := by simpa using hq
    obtain ⟨T0, T1, T2⟩ : (sgP 0 t)[i]? = some (k, iAt t k, false) /\ (sgP 0 t).drop (i + 1) = sgP (k + 1) (t.drop (k + 1)) /\ i < (sgP 0 t).length := drop_cons (Hs.out.trans (by
     by_cases h2 : k + 1 < t.length
     ·exact sg_one h2 (fun h => hq h.1)
     ·exact sg_last hlt h2))
    obtain ⟨x, hx⟩ : ∃ x, iAt t k = x := ⟨_, rfl⟩
    rw [hx] at e0 hq hq' T0
    clear hx
    have HT : Hid (List.drop (i + 1) (sgP 0 t) = sgP (k + 1) (t.drop (k + 1))) := T1
    have H0 : Hid ((sgP 0 t)[i]? = some (k, x, false)) := T0
    clear hu hI Hs T1 T0
    gi_wp2
    gi_quiet (fail)
    have Y := HY.out (n - 1) i (k, x, false) (wr.drewN nq) H0.out (hJ _ _ _ hJr (grown_drewN _ _))
    simp only [encS] at Y
    obtain ⟨fn, tmps, assign, body, hy, hR⟩ := Y
    clear HY H0
    gi_wp2
    refine ⟨(fun h => by cases h), hR.mono ?_⟩
    rintro e3 W3 (⟨rfl, hJ3, hk3⟩ | ⟨rfl, hJx3⟩)
    ·clear hR hy
     gi_wp2
     go_roundw
     case rel => exact ⟨k + 1, i + 1, by omega, by omega, by go_num, HT, hJ3, (hkr.trans (Kq.drewN _ _)).trans hk3⟩
     case measure => simp [intOf]; omega
    ·clear hR hy
     gi_wp2
     refine bodyPost_ret (results_none rfl _ _ _) rfl ?_
     exact ⟨⟨_, rfl⟩, .inr ⟨_, hJx3⟩⟩
  ·obtain rfl : k = t.length := by omega
   have hT := Hs.out
   rw [sg_end (Nat.le_refl _)] at hT
   obtain rfl : i = (sgP 0 t).length := by
    have := congrArg List.length hT
    simp at this
    omega
   clear HY hJ hT
   gi_wp2
   go_end0
   exact ⟨⟨_, rfl⟩, .inl hJr⟩
theorem signs_seq (n Bb cap : Nat) (q : Option Addr) (t : List Int) (hn : t.length <= 8000000000000) (w : World) (c1 : w.cell? ⟨Bb, 0, none⟩ = some (.slice q t.length cap)) (hI : Is w q t) :
  SeqT n Tryz.prog 176 #[.pointer (some ⟨Bb, 0, none⟩)] encS (sgP 0 t) (Kq (Xs q t Bb)) w := fun l J Jx W hW _ hJ hJx hY h0 =>
 signs1_in n l Bb cap q t hn J Jx W ((hW.cell (p := ⟨Bb, 0, none⟩) (World.block_lt_of_cell? w _ c1)).trans c1) (hI.on hW) hJ hY h0
def endS : List Sg -> Option Nat
 | [] => none
 | x :: r => if x.2.1 = 39 /\ x.2.2 = false then some x.1 else endS r
theorem endS_at {T : List Sg} {i : Nat} {x : Sg} (hx : T[i]? = some x) : endS (T.drop i) = if x.2.1 = 39 /\ x.2.2 = false then some x.1 else endS (T.drop (i + 1)) := by
 obtain ⟨hl, rfl⟩ := List.getElem?_eq_some_iff.1 hx
 rw [List.drop_eq_getElem_cons hl, endS]
structure Ie (w : World) (T : List Sg) (i : Nat) (W : World) : Prop where
 e : endS T = endS (T.drop i)
 b0 : Boxed W w.heap.size 3 (.int .i64 0)
 b1 : Boxed W (w.heap.size + 1) 4 (.bool false)
 below : Below w.heap.size w W
def Ixe (w : World) (T : List Sg) (c : Code) (i : Nat) (W : World) : Prop :=
 c = .ret /\ ∃ p : Nat, endS T = some p /\ Boxed W w.heap.size 3 (.int .i64 p) /\ Boxed W (w.heap.size + 1) 4 (.bool true) /\ Below w.heap.size w W
theorem Ie.own {w : World} {T : List Sg} {B : Nat} (hB : w.heap.size <= B) : OwnFrom B (Ie w T) := by
 rintro s W W' row ⟨h1, h2, h3, h4⟩ hgr hr
 exact ⟨h1, boxed_own' h2 hgr hr, boxed_own' h3 hgr hr, h4.grown hgr h4.size (fun k e => by have := (hr k e).1; omega)⟩
theorem Ixe.own {w : World} {T : List Sg} (c : Code) {B : Nat} (hB : w.heap.size <= B) : OwnFrom B (Ixe w T c) := by
 rintro s W W' row ⟨h1, p, h0, h2, h3, h4⟩ hgr hr
 exact ⟨h1, p, h0, boxed_own' h2 hgr hr, boxed_own' h3 hgr hr, h4.grown hgr h4.size (fun k e => by have := (hr k e).1; omega)⟩
theorem results_two {fn : Func} {p q : Tmp} (h : fn.results = #[.cell p 3, .cell q 4]) {tmps : Array Value} {W : World} {b0 b1 : Nat} {x : Int} {z : Bool} (hp : tmps.getD p undef = .pointer (some ⟨b0, 0, none⟩)) (hq : tmps.getD q undef = .pointer (some ⟨b1, 0, none⟩))
  (h0 : Boxed W b0 3 (.int .i64 x)) (h1 : Boxed W b1 4 (.bool z)) : (results fn tmps).run Tryz.prog W = .ok (.tuple #[.int .i64 x, .bool z]) W := by
 have hp' : tmps[p]?.getD undef = .pointer (some ⟨b0, 0, none⟩) := by simpa using hp
 have hq' : tmps[q]?.getD undef = .pointer (some ⟨b1, 0, none⟩) := by simpa using hq
 have c0 := h0.cell
 have c1 := h1.cell
 simp [results, h, hp', hq', asAddr, go_sem, c0, c1]
theorem set_other {W : World} {s : Nat} {v0 v1 : Value} (b0 : Boxed W s 3 v0) (b1 : Boxed W (s + 1) 4 v1) (x : Value) : Boxed (W.setCell ⟨s, 0, none⟩ x) (s + 1) 4 v1 := by
 show _ = _
 rw [Deep.blk_setCell_other _ _ _ _ (by dsimp only; omega)]
 exact b1
theorem set2 {w W : World} {B : Nat} {v0 v1 : Value} (b0 : Boxed W w.heap.size 3 v0) (b1 : Boxed W (w.heap.size + 1) 4 v1) (hB : w.heap.size + 2 <= B) (hb : Below w.heap.size w W) (x z : Value) :
  Boxed ((W.setCell ⟨w.heap.size, 0, none⟩ x).setCell ⟨w.heap.size + 1, 0, none⟩ z) w.heap.size 3 x /\ Boxed ((W.setCell ⟨w.heap.size, 0, none⟩ x).setCell ⟨w.heap.size + 1, 0, none⟩ z) (w.heap.size + 1) 4 z /\
  KeepsFrom B W ((W.setCell ⟨w.heap.size, 0, none⟩ x).setCell ⟨w.heap.size + 1, 0, none⟩ z) /\ Below w.heap.size w ((W.setCell ⟨w.heap.size, 0, none⟩ x).setCell ⟨w.heap.size + 1, 0, none⟩ z) := by
 refine ⟨?_, (set_other b0 b1 x).set z, ⟨by simp [World.setCell], fun k o hk ho hc => ?_⟩, (hb.setCell (Nat.le_refl _) _).setCell (by dsimp only; omega) _⟩
 ·show _ = _
  rw [Deep.blk_setCell_other _ _ _ _ (by dsimp only; omega)]
  exact b0.set x
 ·rw [Deep.blk_setCell_other _ _ _ _ (by dsimp only; omega), Deep.blk_setCell_other _ _ _ _ (by dsimp only; omega)]
  exact ho
theorem End_any (q : Option Addr) (t : List Int) (c : Nat) (w : World) (hn : t.length <= 1099511627776) (hI : Is w q t) :
  Calls Tryz.prog 105 #[.slice q t.length c] w fun e w' => e = .returned (endV (endS (sgP 0 t))) /\ Below w.heap.size w w' := by
 obtain ⟨T, hT⟩ : ∃ T, sgP 0 t = T := ⟨_, rfl⟩
 rw [hT]
 have HT : Hid (sgP 0 t = T) := hT
 clear hT
 refine (callsIn_wide (n := 9)).1 ?_
 have b0 := Boxed.new w 3 (.int .i64 0)
 have b1 := Boxed.new (w.alloc (.cells #[.int .i64 0] 3)) 4 (.bool false)
 have b2 := Boxed.new ((w.alloc (.cells #[.int .i64 0] 3)).alloc (.cells #[.bool false] 4)) 41 (.slice q t.length c)
 have hs1 : (w.alloc (.cells #[.int .i64 0] 3)).heap.size = w.heap.size + 1 := by simp
 have hs2 : ((w.alloc (.cells #[.int .i64 0] 3)).alloc (.cells #[.bool false] 4)).heap.size = w.heap.size + 1 + 1 := by simp
 rw [hs1] at b1
 rw [hs2] at b2
 have hB1 := ((Below.refl w.heap.size w).alloc (Nat.le_refl _) (.cells #[.int .i64 0] 3)).alloc (by simp) (.cells #[.bool false] 4)
 have hB2 := hB1.alloc (by simp; omega) (.cells #[.slice q t.length c] 41)
 have hs3 : (((w.alloc (.cells #[.int .i64 0] 3)).alloc (.cells #[.bool false] 4)).alloc (.cells #[.slice q t.length c] 41)).heap.size = w.heap.size + 1 + 1 + 1 := by simp
 have c0 := ((b0.alloc (.cells #[.bool false] 4)).alloc (.cells #[.slice q t.length c] 41))
 have c1 := b1.alloc (.cells #[.slice q t.length c] 41)
 have SG := fun m => signs_in m q t.length c ((w.alloc (.cells #[.int .i64 0] 3)).alloc (.cells #[.bool false] 4))
 have hI2 := hI.on hB2
 refine callsIn_of_wp_marks Tryz.func105 rfl trivial ?_ rfl
 simp only [Tryz.ntmps105, frm, Nat.reduceAdd, Nat.reduceSub]
 clear b0 b1 hs1 hs2
 gi_wp2_with (first | (refine ⟨trivial, ?_⟩; gi_at_call 150; refine (SG _).mono ?_; rintro e W2 ⟨rfl, rfl⟩))
 generalize (((w.alloc (.cells #[.int .i64 0] 3)).alloc (.cells #[.bool false] 4)).alloc (.cells #[.slice q t.length c] 41)) = W3 at b2 hB2 hs3 c0 c1 hI2 |-
 clear SG hB1
 have hXs := xs_lt (Bb := w.heap.size + 1 + 1) (B := W3.heap.size) hI (by omega) (by omega)
 have SQ := signs_seq (9 - 1) (w.heap.size + 1 + 1) c q t (by omega) W3 b2.cell hI2
 rw [HT.out] at SQ
 refine wpIn_rangeFuncB (gf := 176) (lb := #[.pointer (some ⟨w.heap.size + 1 + 1, 0, none⟩)]) rfl (enters_of Tryz.func176 (by kernel_rfl) rfl) SQ (fun h k => Kq.trans h k) (Kq.putObj hXs) (Below.refl _ _) (fun _ => rfl)
  (Ie w T) (Ixe w T) (Ie.own (by omega)) (fun c => Ixe.own c (by omega)) ⟨rfl, c0, c1, hB2⟩
  (fun x => .cells #[.int .i64 x.2.1, .bool x.2.2] 184) (fun W x h => Kq.alloc hXs W _ h)
  (fun x b => { tmps := #[.slice q t.length c, undef, .pointer (some ⟨w.heap.size, 0, none⟩), .pointer (some ⟨w.heap.size + 1, 0, none⟩), .int .i64 (x.1 : Nat), .pointer (some ⟨b, 0, none⟩), .slice q t.length c, .func (.func 176) #[] #[.pointer (some ⟨w.heap.size + 1 + 1, 0, none⟩)], .int .i64 (x.1 : Nat), .agg #[.int .i64 x.2.1, .bool x.2.2], undef, undef, undef, undef, undef, undef, undef, undef, undef], defers := [] }) ?assign ?body ?done ?stop
 case assign =>
  intro m l x W K hK
  simp only [encS] at hK |-
  gi_wp2
  exact hK
 case body =>
  clear SQ c0 c1 b2 hI2
  rintro m l i b ⟨p, x, z⟩ W hx ⟨he, b0, b1, hbW⟩ xb
  dsimp only at xb |-
  have e0 : W.cell? ⟨b, 0, none⟩ = some (.int .i64 x) := by simp [World.cell?, xb]
  have e1 : W.cell? ⟨b, 1, none⟩ = some (.bool z) := by simp [World.cell?, xb]
  have hE := he.trans (endS_at hx)
  dsimp only at hE
  by_cases h39 : x = 39
  ·subst h39
   cases z with
   | false =>
    rw [if_pos ⟨rfl, rfl⟩] at hE
    have HE : Hid (endS T = some p) := hE
    obtain ⟨P1, P2, P3, P4⟩ := set2 (w := w) (B := W3.heap.size) b0 b1 (by omega) hbW (.int .i64 p) (.bool true)
    have f0 := b0.cell
    have f1 := b0.frozen
    have f2 := (set_other b0 b1 (.int .i64 p)).cell
    have f3 := (set_other b0 b1 (.int .i64 p)).frozen
    clear hE he hx xb
    gi_wp2
    exact ⟨P3, rfl, p, HE.out, P1, P2, P4⟩
   | true =>
    rw [if_neg (by simp)] at hE
    have HE : Hid (endS T = endS (T.drop (i + 1))) := hE
    clear hE he hx xb
    gi_wp2
    exact ⟨KeepsFrom.refl _ _, Kq.refl _ _, HE.out, b0, b1, hbW⟩
  ·rw [if_neg (fun h => h39 h.1)] at hE
   have h39' : (x == 39) = false := by simpa using h39
   have HE : Hid (endS T = endS (T.drop (i + 1))) := hE
   clear hE he hx xb
   gi_wp2
   exact ⟨KeepsFrom.refl _ _, Kq.refl _ _, HE.out, b0, b1, hbW⟩
 case done =>
  rintro D W hD ⟨he, b0, b1, hbW⟩ hK
  rw [List.drop_eq_nil_of_le (Nat.le_refl _)] at he
  have HE : Hid (endS T = none) := he
  obtain ⟨P1, P2, P3, P4⟩ := set2 (w := w) (B := W3.heap.size) b0 b1 (by omega) hbW (.int .i64 0) (.bool false)
  have f0 := b0.cell
  have f1 := b0.frozen
  have f2 := (set_other b0 b1 (.int .i64 0)).cell
  have f3 := (set_other b0 b1 (.int .i64 0)).frozen
  have hK2 := P3.same D _ hD hK rfl
  clear he SQ c0 c1 b2
  gi_wp2
  refine ⟨by simp, .inl ⟨_, _, rfl, run_takeDeferred hK2, ?_⟩⟩
  refine ⟨_, results_two rfl rfl rfl (boxed_put P1 hK2) (boxed_put P2 hK2), ?_⟩
  rw [HE.out]
  exact ⟨rfl, P4.trans (belowK_b (w := w) (Nat.le_refl _) _ D _ _ (by omega) hK2 rfl rfl)⟩
 case stop =>
  rintro D c' i W hD ⟨rfl, p, he, b0, b1, hbW⟩ hK
  have HE : Hid (endS T = some p) := he
  clear he SQ c0 c1 b2
  gi_wp2
  refine ⟨by simp, .inl ⟨_, _, rfl, run_takeDeferred hK, ?_⟩⟩
  refine ⟨_, results_two rfl rfl rfl (boxed_put b0 hK) (boxed_put b1 hK), ?_⟩
  rw [HE.out]
  exact ⟨rfl, hbW.trans (belowK_b (w := w) (Nat.le_refl _) W D _ _ (by omega) hK rfl rfl)⟩
end Go.Proofs.YtipbhdhiklmieaaGreatDoor.P8
namespace Go.Proofs.YtipbhdhiklmieaaGreatDoor.P7
open P8
open Go.RowKit
def span (n a b : Int) : Bool := decide (a <= n) && decide (n <= b)
theorem span_iff {n a b : Int} : span n a b = true ↔ a <= n /\ n <= b := by unfold span; simp
theorem span_not {n a b : Int} : span n a b = false ↔ ¬ (a <= n /\ n <= b) := by unfold span; simp
theorem within_any (n a b : Int) (w : World) :
  Calls Tryz.prog 192 #[.int .i64 n, .int .i64 a, .int .i64 b] w fun e w' => e = .returned (.bool (span n a b)) /\ w' = w := by
 go_enter Tryz.func192, Tryz.ntmps192
 go_wp2
 all_goals
  go_ret
  exact ⟨ret_bool (by unfold span; simp [*] <;> omega), rfl⟩
def printP (c : Int) : Bool := decide (c = 9 \/ c = 10 \/ c = 13 \/ (32 <= c /\ c <= 126) \/ c = 133 \/ (160 <= c /\ c <= 55295) \/ (57344 <= c /\ c <= 65533) \/ (65536 <= c /\ c <= 1114111))
def pointP (c : Int) : Bool := decide (0 <= c /\ c <= 1114111 /\ ¬ (55296 <= c /\ c <= 57343))
def countP (c : Int) : Nat := if c = 120 then 2 else if c = 117 then 4 else if c = 85 then 8 else 0
theorem print_any (c : Int) (w : World) :
  Calls Tryz.prog 172 #[.int .i64 c] w fun e w' => e = .returned (.bool (printP c)) /\ w' = w := by
 go_enter Tryz.func172, Tryz.ntmps172
 go_wp2_with (first | (go_at_call 192; refine (within_any _ _ _ _).mono ?_; rintro e w' ⟨rfl, rfl⟩))
 all_goals
  go_ret
  refine ⟨ret_bool ?_, rfl⟩
  unfold printP
  rw [Bool.eq_iff_iff]
  simp only [span_iff, beq_iff_eq, beq_eq_false_iff_ne, bne_iff_ne, decide_eq_true_eq, Bool.or_eq_true, Bool.and_eq_true, Bool.not_eq_true', Bool.not_eq_eq_eq_not, Bool.not_true, Bool.not_false, Bool.false_eq_true, decide_eq_false_iff_not, ne_eq, iff_false, false_iff, true_iff, iff_true] at *
  try omega
theorem rprint_any (c : Int) (w : World) :
  Calls Tryz.prog 39 #[.int .i64 c] w fun e w' => e = .returned (.bool (printP c)) /\ w' = w := by
 go_enter Tryz.func39, Tryz.ntmps39
 go_wp2
 all_goals
  go_ret
  refine ⟨ret_bool ?_, rfl⟩
  unfold printP
  rw [Bool.eq_iff_iff]
  simp only [span_iff, beq_iff_eq, beq_eq_false_iff_ne, bne_iff_ne, decide_eq_true_eq, Bool.or_eq_true, Bool.and_eq_true, Bool.not_eq_true', Bool.not_eq_eq_eq_not, Bool.not_true, Bool.not_false, Bool.false_eq_true, decide_eq_false_iff_not, ne_eq, iff_false, false_iff, true_iff, iff_true] at *
  try omega
theorem isPoint_any (c : Int) (w : World) :
  Calls Tryz.prog 206 #[.int .i64 c] w fun e w' => e = .returned (.bool (pointP c)) /\ w' = w := by
 go_enter Tryz.func206, Tryz.ntmps206
 go_wp2
 all_goals
  go_ret
  refine ⟨ret_bool ?_, rfl⟩
  unfold pointP
  rw [Bool.eq_iff_iff]
  simp only [span_iff, beq_iff_eq, beq_eq_false_iff_ne, bne_iff_ne, decide_eq_true_eq, Bool.or_eq_true, Bool.and_eq_true, Bool.not_eq_true', Bool.not_eq_eq_eq_not, Bool.not_true, Bool.not_false, Bool.false_eq_true, decide_eq_false_iff_not, ne_eq, iff_false, false_iff, true_iff, iff_true] at *
  try omega
theorem count_any (c : Int) (w : World) :
  Calls Tryz.prog 204 #[.int .i64 c] w fun e w' => e = .returned (.int .i64 (countP c : Nat)) /\ w' = w := by
 go_enter Tryz.func204, Tryz.ntmps204
 go_wp2
 all_goals
  go_ret
  refine ⟨ret_int ?_, rfl⟩
  unfold countP
  simp only [beq_iff_eq, beq_eq_false_iff_ne, ne_eq] at *
  simp [*]
theorem hex_any (c : Int) (w : World) :
  Calls Tryz.prog 203 #[.int .i64 c] w fun e w' => e = .returned (.int .i64 (hexP c)) /\ w' = w := by
 go_enter Tryz.func203, Tryz.ntmps203
 go_wp2_with (go_at_call 192; refine (within_any _ _ _ _).mono ?_; rintro e w' ⟨rfl, rfl⟩)
 all_goals
  go_ret
  refine ⟨ret_int ?_, rfl⟩
  unfold hexP
  try unfold wrap64
  simp only [span_iff, span_not] at *
  repeat' split
  all_goals omega
theorem indent_any (q : Option Addr) (t : List Int) (c : Nat) (w : World) (hc : t.length <= c) (hm : c <= maxLen) (hI : Is w q t) :
  Calls Tryz.prog 178 #[.slice q t.length c] w fun e w' => (∃ (q' : Option Addr) (c' : Nat), e = .returned (.slice q' (dropF t).length c') /\ (dropF t).length <= c' /\ c' <= maxLen /\ Sub q t q' (dropF t)) /\ w' = w := by
 have hsub := Sub.refl hI
 obtain ⟨T, hT⟩ : ∃ T, dropF t = T := ⟨_, rfl⟩
 rw [hT]
 have HT : Hid (dropF t = T) := hT
 clear hT
 go_enter Tryz.func178, Tryz.ntmps178
 go_wp2
 go_loop [0] (fun v => ∃ (q' : Option Addr) (u : List Int) (c' : Nat), v = .slice q' u.length c' /\ Sub q t q' u /\ u.length <= c' /\ c' <= maxLen /\ Hid (dropF u = T)) (fun v => slen v)
 case atStart => exact ⟨q, t, c, rfl, hsub, hc, hm, HT⟩
 case round =>
  obtain ⟨q', u, c', rfl, hs, hc1, hm1, HD⟩ := hrel
  have hm2 : (c' : Int) <= 9223372036854775807 := by unfold maxLen at hm1; omega
  have hc2 : (u.length : Int) <= c' := by omega
  by_cases hl : 0 < u.length
  ·have hl' : (0 : Int) < u.length := by omega
   obtain ⟨b, o, rfl, hu⟩ := (hs.is hI).at hl
   have d0 := hu 0 hl
   rw [Nat.add_zero] at d0
   cases hb : blankP (iAt u 0) with
   | true =>
    have S : ∀ w2, (Instr.slice 41 (.slice (some ⟨b, o, none⟩) u.length c') (some (.int .i64 1)) none none).run Tryz.prog w2 = .ok (.slice (if c' = 1 then (some (⟨b, o, none⟩ : Addr)) else (some (⟨b, o, none⟩ : Addr)).map (·.add 1)) (u.length - 1) (c' - 1)) w2 := slice_from (some ⟨b, o, none⟩) u.length c' 1 (by omega) hc1
    have hs' := hs.tail c' hc1
    have HD' : Hid (dropF (u.drop 1) = T) := by
     show _ = _
     rw [dropF_more hl hb]; exact HD.out
    have BL := blank_any (iAt u 0)
    rw [hb] at BL
    generalize (if c' = 1 then (some (⟨b, o, none⟩ : Addr)) else (some (⟨b, o, none⟩ : Addr)).map (·.add 1)) = q'' at S hs'
    have hlen : (u.drop 1).length = u.length - 1 := by simp
    generalize iAt u 0 = x at d0 BL
    clear hu hb HD
    go_wp2_with (go_at_call 55; refine (BL _).mono ?_; rintro e w' ⟨rfl, rfl⟩)
    go_round
    case rel => exact ⟨q'', u.drop 1, c' - 1, by rw [hlen], hs', by rw [hlen]; omega, by omega, HD'⟩
    case measure => simp [slen]; omega
   | false =>
    have HE1 : Hid (u = T) := by
     show _ = _
     rw [<- HD.out, dropF_stop (fun _ => hb)]
    have BL := blank_any (iAt u 0)
    rw [hb] at BL
    generalize iAt u 0 = x at d0 BL
    clear hu hb HD
    go_wp2_with (go_at_call 55; refine (BL _).mono ?_; rintro e w' ⟨rfl, rfl⟩)
    go_ret
    have e := HE1.out
    subst e
    exact ⟨⟨_, _, rfl, hc1, hm1, hs⟩, rfl⟩
  ·have e0 : u = [] := List.eq_nil_of_length_eq_zero (by omega)
   subst e0
   have e : T = [] := HD.out.symm
   subst e
   go_wp2
   go_ret
   exact ⟨⟨_, _, rfl, hm1, hs⟩, rfl⟩
theorem or16 (n x : Nat) (hn : n < 268435456) (hx : x < 16) : bits .or .i64 ((n : Int) * 16) (x : Int) = ((n * 16 + x : Nat) : Int) := by
 rw [show ((n : Int) * 16) = ((n * 16 : Nat) : Int) from by omega, i64_or_nat _ _ (by omega) (by omega), or_mul x n 4 16 (by decide) hx]
theorem hexP_lt (c : Int) : hexP c < 16 := by unfold hexP; repeat' split; all_goals omega
theorem hexP_ge (c : Int) : -1 <= hexP c := by unfold hexP; repeat' split; all_goals omega
def accS (a : Option Nat) (c : Int) : Option Nat := a.bind fun n => if hexP c < 0 then none else some (n * 16 + (hexP c).toNat)
def accP (l : List Int) : Option Nat := l.foldl accS (some 0)
theorem accP_snoc (l : List Int) (c : Int) : accP (l ++ [c]) = accS (accP l) c := by simp [accP]
theorem accP_none : ∀ (m l : List Int), accP l = none -> accP (l ++ m) = none
 | [], l, h => by simpa using h
 | c :: m, l, h => by
  have := accP_none m (l ++ [c]) (by rw [accP_snoc, h]; rfl)
  simpa using this
theorem accP_lt (l : List Int) (n : Nat) (h : accP l = some n) : n < 16 ^ l.length := by
 have gen : ∀ (r : List Int) (i : Nat) (a n : Nat), a < 16 ^ i -> r.foldl accS (some a) = some n -> n < 16 ^ (i + r.length) := by
  intro r
  induction r with
  | nil => intro i a n ha hn; simp at hn; subst hn; simpa using ha
  | cons c r ih =>
   intro i a n ha hn
   rw [List.foldl_cons] at hn
   unfold accS at hn
   simp only [Option.bind_some] at hn
   by_cases hc : hexP c < 0
   ·rw [if_pos hc] at hn
    exfalso
    have : ∀ r : List Int, r.foldl accS none = none := by intro r; induction r with | nil => rfl | cons c r ih => simpa [accS] using ih
    have h2 := this r
    unfold accS at h2
    rw [h2] at hn
    cases hn
   ·rw [if_neg hc] at hn
    have h1 := hexP_lt c
    have := ih (i + 1) (a * 16 + (hexP c).toNat) n (by rw [Nat.pow_succ]; omega) hn
    rw [List.length_cons]
    rw [show i + (r.length + 1) = i + 1 + r.length by omega]
    exact this
 have := gen l 0 0 n (by simp) h
 simpa using this
structure Esc where
 size : Nat
 point : Int
 fault : Nat
def escV (x : Esc) : Value := .agg #[.int .i64 (x.size : Nat), .int .i64 x.point, .int .i64 (x.fault : Nat)]
def shortsL : List (Int × Int) := [(48, 0), (97, 7), (98, 8), (116, 9), (9, 9), (110, 10), (118, 11), (102, 12), (114, 13), (101, 27), (32, 32), (34, 34), (47, 47), (92, 92), (78, 133), (95, 160), (76, 8232), (80, 8233)]
def sgn (j : Nat) : Int := ((shortsL[j]?).map (·.1)).getD 0
def pnt (j : Nat) : Int := ((shortsL[j]?).map (·.2)).getD 0
def shortAt (c : Int) : Option Int := (shortsL.find? fun x => decide (x.1 = c)).map (·.2)
def numbP (rest : List Int) (count : Nat) : Esc :=
 if rest.length < count then ⟨0, 0, 2⟩ else
 match accP (rest.take count) with
 | none => ⟨0, 0, 2⟩
 | some n => if pointP n then ⟨2 + count, n, 0⟩ else ⟨0, 0, 4⟩
def firstP (rest : List Int) (last : Bool) : Esc :=
 match rest with
 | [] => if last then ⟨0, 0, 2⟩ else ⟨1, -1, 0⟩
 | c :: r => if 0 < countP c then numbP r (countP c) else
  match shortAt c with
  | some p => ⟨2, p, 0⟩
  | none => ⟨0, 0, 2⟩
theorem countP_le (c : Int) : countP c <= 8 := by
 unfold countP
 by_cases h1 : c = 120
 ·rw [if_pos h1]; omega
 ·by_cases h2 : c = 117
  ·rw [if_neg h1, if_pos h2]; omega
  ·by_cases h3 : c = 85
   ·rw [if_neg h1, if_neg h2, if_pos h3]; omega
   ·rw [if_neg h1, if_neg h2, if_neg h3]; omega
theorem numbP_size (r : List Int) (k : Nat) (h : (numbP r k).fault = 0) : (numbP r k).size = 2 + k /\ k <= r.length /\ (numbP r k).point ≠ -1 := by
 unfold numbP at h |-
 split
 ·rename_i h1; rw [if_pos h1] at h; simp at h
 ·rename_i h1
  rw [if_neg h1] at h
  cases ha : accP (r.take k) with
  | none => rw [ha] at h; simp at h
  | some n =>
   rw [ha] at h
   dsimp only at h |-
   split
   ·exact ⟨rfl, by omega, by dsimp only; omega⟩
   ·rename_i h2; rw [if_neg h2] at h; simp at h
theorem firstP_size (r : List Int) (last : Bool) (h : (firstP r last).fault = 0) : 1 <= (firstP r last).size /\ (firstP r last).size <= r.length + 1 /\ (firstP r last).size <= 10 := by
 unfold firstP at h |-
 cases r with
 | nil =>
  dsimp only at h |-
  cases last
  ·simp
  ·simp at h
 | cons c r =>
  dsimp only at h |-
  split
  ·rename_i h1
   rw [if_pos h1] at h
   have := numbP_size r (countP c) h
   have := countP_le c
   simp only [List.length_cons]
   omega
  ·rename_i h1
   rw [if_neg h1] at h
   cases hs : shortAt c with
   | none => rw [hs] at h; simp at h
   | some p => simp
theorem grown_of_alloc {w w' : World} {o : Obj} (h : (w.alloc o).grownBy w' none) : w.grownBy w' none := by
 obtain ⟨h1, h2, h3, h4, h5⟩ := h
 refine ⟨h1, h2, h3, by rw [World.size_alloc] at h4; omega, fun k hk hr => ?_⟩
 exact (h5 k (by rw [World.size_alloc]; omega) hr).trans (Below.heap_alloc w o k hk)
theorem grown_set {w W : World} (h : w.grownBy W none) {a : Addr} (ha : w.heap.size <= a.block) (v : Value) : w.grownBy (W.setCell a v) none := by
 obtain ⟨h1, h2, h3, h4, h5⟩ := h
 refine ⟨h1, h2, h3, by have := (KeepsOthers.setCell W a v).size; omega, fun k hk hr => ?_⟩
 exact (Below.heap_setCell W a v k (by omega)).trans (h5 k hk hr)
theorem grown_new (w : World) (o : Obj) : w.grownBy (w.alloc o) none := World.grownBy_alloc w o none
theorem grown_refl (w : World) : w.grownBy w none := ⟨rfl, rfl, rfl, Nat.le_refl _, fun _ _ _ => rfl⟩
theorem grown_trans {a b c : World} (h : a.grownBy b none) (k : b.grownBy c none) : a.grownBy c none := by
 obtain ⟨h1, h2, h3, h4, h5⟩ := h
 obtain ⟨k1, k2, k3, k4, k5⟩ := k
 exact ⟨k1.trans h1, k2.trans h2, k3.trans h3, Nat.le_trans h4 k4, fun i hi hr => (k5 i (Nat.lt_of_lt_of_le hi h4) hr).trans (h5 i hi hr)⟩
theorem grown_below {a b : World} (h : a.grownBy b none) : Below a.heap.size a b := (Below.refl _ a).grown h (Nat.le_refl _) (fun k e => by cases e)
theorem take_more' {t : List Int} {j : Nat} (h : j < t.length) : t.take (j + 1) = t.take j ++ [iAt t j] := by
 rw [List.take_add_one]
 simp [iAt, h]
def put3 (W : World) (g : Nat) (b0 b1 b2 : Value) : World := ((W.setCell ⟨g, 0, none⟩ b0).setCell ⟨g, 1, none⟩ b1).setCell ⟨g, 2, none⟩ b2
theorem put3_grown {w W : World} (h : w.grownBy W none) {g : Nat} (hg : w.heap.size <= g) (b0 b1 b2 : Value) : w.grownBy (put3 W g b0 b1 b2) none :=
 grown_set (grown_set (grown_set h hg b0) hg b1) hg b2
theorem numb_any (q : Option Addr) (t : List Int) (c k : Nat) (w : World) (hc : t.length <= c) (hm : c <= maxLen) (hk : k <= 8) (hI : Is w q t) :
  Calls Tryz.prog 205 #[.slice q t.length c, .int .i64 (k : Nat)] w fun e w' => e = .returned (escV (numbP t k)) /\ w.grownBy w' none := by
 have hm2 : (c : Int) <= 9223372036854775807 := by unfold maxLen at hm; omega
 have hc2 : (t.length : Int) <= c := by omega
 have G0 := grown_new w (.cells #[.int .i64 0, .int .i64 0, .int .i64 0] 217)
 by_cases hlt : t.length < k
 ·have hlt' : (t.length : Int) < k := by omega
  have e : numbP t k = ⟨0, 0, 2⟩ := by unfold numbP; rw [if_pos hlt]
  rw [e]
  go_enter Tryz.func205, Tryz.ntmps205
  go_wp2
  refine bodyPost_ret (v := escV ⟨0, 0, 2⟩) (by simp [results, Tryz.results205, go_sem, escV]) rfl ⟨rfl, ?_⟩
  exact grown_new _ _
 ·have hge : ¬ (t.length : Int) < k := by omega
  have hkc : k <= c := by omega
  have S := slice_to q t.length c k hkc
  have HN : Hid (numbP t k = match accP (t.take k) with | none => ⟨0, 0, 2⟩ | some n => if pointP n then ⟨2 + k, n, 0⟩ else ⟨0, 0, 4⟩) := by
   show _ = _
   unfold numbP
   rw [if_neg hlt]
   try rfl
  generalize numbP t k = E at HN |-
  go_enter Tryz.func205, Tryz.ntmps205
  go_wp2
  clear S
  go_loop [5, 18] (fun pv iv => ∃ (j n : Nat), j <= k /\ iv = .int .i64 j /\ pv = .int .i64 n /\ Hid (accP (t.take j) = some n)) (fun _ iv => k - (intOf iv).toNat)
  case atStart => exact ⟨0, 0, Nat.zero_le _, rfl, rfl, rfl⟩
  case round =>
   obtain ⟨j, n, hj, rfl, rfl, HA⟩ := hrel
   by_cases hjk : j < k
   ·have hjk' : (j : Int) < k := by omega
    have hn1 : n < 268435456 := by
     have h1 := accP_lt _ _ HA.out
     have h2 : (t.take j).length <= 7 := by rw [List.length_take]; omega
     have h3 : 16 ^ (t.take j).length <= 16 ^ 7 := Nat.pow_le_pow_right (by decide) h2
     have h4 : (16 : Nat) ^ 7 = 268435456 := by decide
     omega
    obtain ⟨b, o, rfl, hu⟩ := (hI.alloc (.cells #[.int .i64 0, .int .i64 0, .int .i64 0] 217)).at (by omega)
    have d0 := hu j (by omega)
    have hs1 := take_more' (t := t) (j := j) (by omega)
    have HX := hex_any (iAt t j)
    have hx1 := hexP_lt (iAt t j)
    have hx2 := hexP_ge (iAt t j)
    have HS : Hid (accP (t.take (j + 1)) = accS (some n) (iAt t j)) := by
     show _ = _
     rw [hs1, accP_snoc, HA.out]
    by_cases hneg : hexP (iAt t j) < 0
    ·have HE : Hid (E = ⟨0, 0, 2⟩) := by
      show _ = _
      have h1 : accP (t.take (j + 1)) = none := by rw [HS.out]; unfold accS; simp [hneg]
      have h2 := accP_none ((t.drop (j + 1)).take (k - (j + 1))) _ h1
      have h3 : t.take (j + 1) ++ (t.drop (j + 1)).take (k - (j + 1)) = t.take k := by
       rw [<- List.take_add]; congr 1; omega
      rw [h3] at h2
      rw [HN.out, h2]
     generalize iAt t j = x at d0 HX hx1 hx2 hneg HS
     generalize hexP x = y at HX hx1 hx2 hneg
     clear hu hs1 HS HN HA
     go_wp2_with (go_at_call 203; refine (HX _).mono ?_; rintro e w' ⟨rfl, rfl⟩)
     rw [HE.out]
     refine bodyPost_ret (v := escV ⟨0, 0, 2⟩) (by simp [results, Tryz.results205, go_sem, escV]) rfl ⟨rfl, ?_⟩
     exact grown_new _ _
    ·obtain ⟨y, hy⟩ : ∃ y : Nat, hexP (iAt t j) = y := ⟨(hexP (iAt t j)).toNat, by omega⟩
     have HS2 : Hid (accP (t.take (j + 1)) = some (n * 16 + y)) := by
      show _ = _
      rw [HS.out]; unfold accS; simp [hneg, hy]
     have hor := or16 n y hn1 (by omega)
     have hw1 : wrap64 ((n : Int) * 16) = (n : Int) * 16 := by unfold wrap64; omega
     rw [hy] at HX hneg hx1
     generalize iAt t j = x at d0 HX
     clear hu hs1 HS hy hx2
     have hneg' : ¬ ((y : Int) < 0) := by omega
     go_wp2_with (go_at_call 203; refine (HX _).mono ?_; rintro e w' ⟨rfl, rfl⟩)
     go_round
     case rel => exact ⟨j + 1, n * 16 + y, by omega, by go_num, by first | (rw [hor]) | rfl, HS2⟩
     case measure => simp [intOf]; omega
   ·obtain rfl : j = k := by omega
    have HE : Hid (E = if pointP n then ⟨2 + j, n, 0⟩ else ⟨0, 0, 4⟩) := by
     show _ = _
     rw [HN.out, HA.out]
    have IP := isPoint_any (n : Int)
    cases hp : pointP n with
    | true =>
     rw [hp] at IP
     rw [hp, if_pos rfl] at HE
     clear HN HA hp
     go_wp2_with (go_at_call 206; refine (IP _).mono ?_; rintro e w' ⟨rfl, rfl⟩)
     rw [HE.out]
     refine bodyPost_ret (v := escV ⟨2 + j, n, 0⟩) (by simp [results, Tryz.results205, go_sem, escV]) rfl ⟨rfl, ?_⟩
     exact grown_new _ _
    | false =>
     rw [hp] at IP
     rw [hp, if_neg (by simp)] at HE
     clear HN HA hp
     go_wp2_with (go_at_call 206; refine (IP _).mono ?_; rintro e w' ⟨rfl, rfl⟩)
     rw [HE.out]
     refine bodyPost_ret (v := escV ⟨0, 0, 4⟩) (by simp [results, Tryz.results205, go_sem, escV]) rfl ⟨rfl, ?_⟩
     exact grown_new _ _
def Tab (w : World) : Prop := ∀ j, j < 18 -> w.cell? ⟨0, 2 * j, none⟩ = some (.int .i64 (sgn j)) /\ w.cell? ⟨0, 2 * j + 1, none⟩ = some (.int .i64 (pnt j))
theorem Tab.lt {w : World} (h : Tab w) : 0 < w.heap.size := World.block_lt_of_cell? w ⟨0, 2 * 0, none⟩ (h 0 (by decide)).1
theorem Tab.below {w W : World} {n : Nat} (h : Tab w) (hb : Below n w W) (hn : 0 < n) : Tab W := fun j hj =>
 ⟨(hb.cell (p := ⟨0, 2 * j, none⟩) hn).trans (h j hj).1, (hb.cell (p := ⟨0, 2 * j + 1, none⟩) hn).trans (h j hj).2⟩
theorem Tab.grown {w W : World} (h : Tab w) (hg : w.grownBy W none) : Tab W := h.below (grown_below hg) h.lt
theorem Tab.on {w W : World} (h : Tab w) (hb : Below w.heap.size w W) : Tab W := h.below hb h.lt
def tabV : Value := .agg #[.int .i64 48, .int .i64 0, .int .i64 97, .int .i64 7, .int .i64 98, .int .i64 8, .int .i64 116, .int .i64 9, .int .i64 9, .int .i64 9, .int .i64 110, .int .i64 10, .int .i64 118, .int .i64 11, .int .i64 102, .int .i64 12, .int .i64 114, .int .i64 13, .int .i64 101, .int .i64 27, .int .i64 32, .int .i64 32, .int .i64 34, .int .i64 34, .int .i64 47, .int .i64 47, .int .i64 92, .int .i64 92, .int .i64 78, .int .i64 133, .int .i64 95, .int .i64 160, .int .i64 76, .int .i64 8232, .int .i64 80, .int .i64 8233]
theorem tab_range {w : World} (h : Tab w) : w.rangeAt 0 0 [.int .i64 48, .int .i64 0, .int .i64 97, .int .i64 7, .int .i64 98, .int .i64 8, .int .i64 116, .int .i64 9, .int .i64 9, .int .i64 9, .int .i64 110, .int .i64 10, .int .i64 118, .int .i64 11, .int .i64 102, .int .i64 12, .int .i64 114, .int .i64 13, .int .i64 101, .int .i64 27, .int .i64 32, .int .i64 32, .int .i64 34, .int .i64 34, .int .i64 47, .int .i64 47, .int .i64 92, .int .i64 92, .int .i64 78, .int .i64 133, .int .i64 95, .int .i64 160, .int .i64 76, .int .i64 8232, .int .i64 80, .int .i64 8233] := by
 intro j v hv
 have hj : j < 36 := (List.getElem?_eq_some_iff.1 hv).1
 have hh := h (j / 2) (by omega)
 rw [Nat.zero_add]
 rcases Nat.mod_two_eq_zero_or_one j with e | e
 ·have e2 : 2 * (j / 2) = j := by omega
  have h1 := hh.1
  rw [e2] at h1
  rw [h1, <- hv]
  have : ∀ k, k < 18 -> some (Value.int .i64 (sgn k)) = [Value.int .i64 48, .int .i64 0, .int .i64 97, .int .i64 7, .int .i64 98, .int .i64 8, .int .i64 116, .int .i64 9, .int .i64 9, .int .i64 9, .int .i64 110, .int .i64 10, .int .i64 118, .int .i64 11, .int .i64 102, .int .i64 12, .int .i64 114, .int .i64 13, .int .i64 101, .int .i64 27, .int .i64 32, .int .i64 32, .int .i64 34, .int .i64 34, .int .i64 47, .int .i64 47, .int .i64 92, .int .i64 92, .int .i64 78, .int .i64 133, .int .i64 95, .int .i64 160, .int .i64 76, .int .i64 8232, .int .i64 80, .int .i64 8233][2 * k]? := by
   intro k hk
   match k, hk with
   | 0, _ => rfl
   | 1, _ => rfl
   | 2, _ => rfl
   | 3, _ => rfl
   | 4, _ => rfl
   | 5, _ => rfl
   | 6, _ => rfl
   | 7, _ => rfl
   | 8, _ => rfl
   | 9, _ => rfl
   | 10, _ => rfl
   | 11, _ => rfl
   | 12, _ => rfl
   | 13, _ => rfl
   | 14, _ => rfl
   | 15, _ => rfl
   | 16, _ => rfl
   | 17, _ => rfl
   | k + 18, h => omega
  have := this (j / 2) (by omega)
  rw [e2] at this
  exact this
 ·have e2 : 2 * (j / 2) + 1 = j := by omega
  have h1 := hh.2
  rw [e2] at h1
  rw [h1, <- hv]
  have : ∀ k, k < 18 -> some (Value.int .i64 (pnt k)) = [Value.int .i64 48, .int .i64 0, .int .i64 97, .int .i64 7, .int .i64 98, .int .i64 8, .int .i64 116, .int .i64 9, .int .i64 9, .int .i64 9, .int .i64 110, .int .i64 10, .int .i64 118, .int .i64 11, .int .i64 102, .int .i64 12, .int .i64 114, .int .i64 13, .int .i64 101, .int .i64 27, .int .i64 32, .int .i64 32, .int .i64 34, .int .i64 34, .int .i64 47, .int .i64 47, .int .i64 92, .int .i64 92, .int .i64 78, .int .i64 133, .int .i64 95, .int .i64 160, .int .i64 76, .int .i64 8232, .int .i64 80, .int .i64 8233][2 * k + 1]? := by
   intro k hk
   match k, hk with
   | 0, _ => rfl
   | 1, _ => rfl
   | 2, _ => rfl
   | 3, _ => rfl
   | 4, _ => rfl
   | 5, _ => rfl
   | 6, _ => rfl
   | 7, _ => rfl
   | 8, _ => rfl
   | 9, _ => rfl
   | 10, _ => rfl
   | 11, _ => rfl
   | 12, _ => rfl
   | 13, _ => rfl
   | 14, _ => rfl
   | 15, _ => rfl
   | 16, _ => rfl
   | 17, _ => rfl
   | k + 18, h => omega
  have := this (j / 2) (by omega)
  rw [e2] at this
  exact this
theorem index_tab (j : Nat) (hj : j < 18) (w : World) : (Instr.index 243 tabV (.int .i64 (j : Nat))).run Tryz.prog w = .ok (.agg #[.int .i64 (sgn j), .int .i64 (pnt j)]) w := by
 have hi : (0 : Int) <= (j : Nat) /\ ((j : Nat) : Int) < (18 : Nat) := by omega
 have z := Tryz.sizeOf242
 have u := Tryz.underlying242
 unfold tabV
 match j, hj with
 | 0, _ => simp [Instr.index, run_underlying Tryz.underlying243, asIntOf, go_sem, part, sgn, pnt, shortsL]
 | 1, _ => simp [Instr.index, run_underlying Tryz.underlying243, asIntOf, go_sem, part, sgn, pnt, shortsL]
 | 2, _ => simp [Instr.index, run_underlying Tryz.underlying243, asIntOf, go_sem, part, sgn, pnt, shortsL]
 | 3, _ => simp [Instr.index, run_underlying Tryz.underlying243, asIntOf, go_sem, part, sgn, pnt, shortsL]
 | 4, _ => simp [Instr.index, run_underlying Tryz.underlying243, asIntOf, go_sem, part, sgn, pnt, shortsL]
 | 5, _ => simp [Instr.index, run_underlying Tryz.underlying243, asIntOf, go_sem, part, sgn, pnt, shortsL]
 | 6, _ => simp [Instr.index, run_underlying Tryz.underlying243, asIntOf, go_sem, part, sgn, pnt, shortsL]
 | 7, _ => simp [Instr.index, run_underlying Tryz.underlying243, asIntOf, go_sem, part, sgn, pnt, shortsL]
 | 8, _ => simp [Instr.index, run_underlying Tryz.underlying243, asIntOf, go_sem, part, sgn, pnt, shortsL]
 | 9, _ => simp [Instr.index, run_underlying Tryz.underlying243, asIntOf, go_sem, part, sgn, pnt, shortsL]
 | 10, _ => simp [Instr.index, run_underlying Tryz.underlying243, asIntOf, go_sem, part, sgn, pnt, shortsL]
 | 11, _ => simp [Instr.index, run_underlying Tryz.underlying243, asIntOf, go_sem, part, sgn, pnt, shortsL]
 | 12, _ => simp [Instr.index, run_underlying Tryz.underlying243, asIntOf, go_sem, part, sgn, pnt, shortsL]
 | 13, _ => simp [Instr.index, run_underlying Tryz.underlying243, asIntOf, go_sem, part, sgn, pnt, shortsL]
 | 14, _ => simp [Instr.index, run_underlying Tryz.underlying243, asIntOf, go_sem, part, sgn, pnt, shortsL]
 | 15, _ => simp [Instr.index, run_underlying Tryz.underlying243, asIntOf, go_sem, part, sgn, pnt, shortsL]
 | 16, _ => simp [Instr.index, run_underlying Tryz.underlying243, asIntOf, go_sem, part, sgn, pnt, shortsL]
 | 17, _ => simp [Instr.index, run_underlying Tryz.underlying243, asIntOf, go_sem, part, sgn, pnt, shortsL]
 | j + 18, h => omega
theorem grown_drew (w : World) : w.grownBy w.drew none := ⟨rfl, rfl, rfl, Nat.le_refl _, fun _ _ _ => rfl⟩
theorem _root_.Go.Proofs.YtipbhdhiklmieaaGreatDoor.Is.grown {w W : World} {q : Option Addr} {t : List Int} (h : Is w q t) (hg : w.grownBy W none) : Is W q t := h.on (grown_below hg)
theorem put3_load {W : World} {g : Nat} {a0 a1 a2 : Value} (r0 : W.cell? ⟨g, 0, none⟩ = some a0) (r1 : W.cell? ⟨g, 1, none⟩ = some a1) (r2 : W.cell? ⟨g, 2, none⟩ = some a2) (b0 b1 b2 : Value) :
  (loadVar 217 ⟨g, 0, none⟩).run Tryz.prog (put3 W g b0 b1 b2) = .ok (.agg #[b0, b1, b2]) (put3 W g b0 b1 b2) := by
 unfold put3
 simp [go_sem, r0, r1, r2]
theorem put3_results {fn : Func} {p : Tmp} (h : fn.results = #[.cell p 217]) {tmps : Array Value} {W : World} {g : Nat} {a0 a1 a2 : Value} (hp : tmps.getD p undef = .pointer (some ⟨g, 0, none⟩))
  (r0 : W.cell? ⟨g, 0, none⟩ = some a0) (r1 : W.cell? ⟨g, 1, none⟩ = some a1) (r2 : W.cell? ⟨g, 2, none⟩ = some a2) (b0 b1 b2 : Value) :
  (results fn tmps).run Tryz.prog (put3 W g b0 b1 b2) = .ok (.agg #[b0, b1, b2]) (put3 W g b0 b1 b2) := by
 have hp' : tmps[p]?.getD undef = .pointer (some ⟨g, 0, none⟩) := by simpa using hp
 simp [results, h, hp', asAddr, put3_load r0 r1 r2]
theorem box3 {w W : World} {c0 c1 c2 : Value} {t : TypeId} (hg : (w.alloc (.cells #[c0, c1, c2] t)).grownBy W none) :
  W.cell? ⟨w.heap.size, 0, none⟩ = some c0 /\ W.cell? ⟨w.heap.size, 1, none⟩ = some c1 /\ W.cell? ⟨w.heap.size, 2, none⟩ = some c2 /\
  W.frozen? ⟨w.heap.size, 0, none⟩ = false /\ W.frozen? ⟨w.heap.size, 1, none⟩ = false /\ W.frozen? ⟨w.heap.size, 2, none⟩ = false := by
 have hB := grown_below hg
 have hb : ∀ i, (⟨w.heap.size, i, none⟩ : Addr).block < (w.alloc (.cells #[c0, c1, c2] t)).heap.size := fun i => by simp
 refine ⟨?_, ?_, ?_, ?_, ?_, ?_⟩
 all_goals first | rw [hB.cell (hb _)] | rw [hB.frozen (hb _)]
 all_goals simp
theorem wpList_load_tab {ops : Array Oper} {rest : List Oper} {op : Oper} {a : Act} {w : World} {Q : Exit -> Act -> World -> Prop} (hgd : op.guard = none) (x : Operand) (ho : op.op = .load 243 x)
  (hx : a.eval x = .pointer (some ⟨0, 0, none⟩)) (hT : Tab w) (h : wpList Tryz.prog ops Q rest (a.put op.dst tabV) w) : wpList Tryz.prog ops Q (op :: rest) a w :=
 wpList_load_mid hgd 243 x ho 0 0 hx _ _ (tab_range hT) Tryz.underlying243 rfl (by kernel_rfl) h
theorem short_none {c : Int} (h : ∀ i, i < 18 -> sgn i ≠ c) : shortAt c = none := by
 have h0 := h 0 (by decide); have h1 := h 1 (by decide); have h2 := h 2 (by decide); have h3 := h 3 (by decide); have h4 := h 4 (by decide); have h5 := h 5 (by decide)
 have h6 := h 6 (by decide); have h7 := h 7 (by decide); have h8 := h 8 (by decide); have h9 := h 9 (by decide); have h10 := h 10 (by decide); have h11 := h 11 (by decide)
 have h12 := h 12 (by decide); have h13 := h 13 (by decide); have h14 := h 14 (by decide); have h15 := h 15 (by decide); have h16 := h 16 (by decide); have h17 := h 17 (by decide)
 simp [sgn, shortsL] at h0 h1 h2 h3 h4 h5 h6 h7 h8 h9 h10 h11 h12 h13 h14 h15 h16 h17
 simp [shortAt, shortsL, *]
theorem short_some (j : Nat) (hj : j < 18) : shortAt (sgn j) = some (pnt j) := by
 match j, hj with
 | 0, _ => decide
 | 1, _ => decide
 | 2, _ => decide
 | 3, _ => decide
 | 4, _ => decide
 | 5, _ => decide
 | 6, _ => decide
 | 7, _ => decide
 | 8, _ => decide
 | 9, _ => decide
 | 10, _ => decide
 | 11, _ => decide
 | 12, _ => decide
 | 13, _ => decide
 | 14, _ => decide
 | 15, _ => decide
 | 16, _ => decide
 | 17, _ => decide
 | j + 18, h => omega
theorem first_any (q : Option Addr) (t : List Int) (c : Nat) (last : Bool) (w : World) (hc : t.length <= c) (hm : c <= maxLen) (hI : Is w q t) (hT : Tab w) :
  Calls Tryz.prog 196 #[.slice q t.length c, .bool last] w fun e w' => e = .returned (escV (firstP t last)) /\ w.grownBy w' none := by
 have hm2 : (c : Int) <= 9223372036854775807 := by unfold maxLen at hm; omega
 have hc2 : (t.length : Int) <= c := by omega
 cases t with
 | nil =>
  cases last with
  | true =>
   go_enter Tryz.func196, Tryz.ntmps196
   go_wp2
   refine bodyPost_ret (v := escV (firstP [] true)) (by simp [results, Tryz.results196, go_sem, escV, firstP]) rfl ⟨rfl, ?_⟩
   exact grown_new _ _
  | false =>
   go_enter Tryz.func196, Tryz.ntmps196
   go_wp2
   refine bodyPost_ret (v := escV (firstP [] false)) (by simp [results, Tryz.results196, go_sem, escV, firstP]) rfl ⟨rfl, ?_⟩
   exact grown_new _ _
 | cons x r =>
  obtain ⟨t, ht⟩ : ∃ t, t = x :: r := ⟨_, rfl⟩
  have hl : 0 < t.length := by rw [ht]; simp
  have hl' : (0 : Int) < t.length := by omega
  have hne : ¬ t = [] := by intro e; rw [e] at hl; simp at hl
  have hne2 : ((t.length : Int) == 0) = false := by simpa using hne
  have hne3 : ¬ (t.length : Int) = 0 := by omega
  have hx : iAt t 0 = x := by rw [ht]; rfl
  have hr : t.drop 1 = r := by rw [ht]; rfl
  rw [<- ht] at hc hc2 hI |-
  have HP : Hid (firstP t last = if 0 < countP x then numbP r (countP x) else match shortAt x with | some p => ⟨2, p, 0⟩ | none => ⟨0, 0, 2⟩) := by
   show _ = _
   rw [ht]; rfl
  have hI1 := hI.alloc (.cells #[.int .i64 0, .int .i64 0, .int .i64 0] 217)
  have hT1 := hT.grown (grown_new w (.cells #[.int .i64 0, .int .i64 0, .int .i64 0] 217))
  obtain ⟨b, o, rfl, hu⟩ := hI1.at hl
  have d0 := hu 0 hl
  rw [Nat.add_zero, hx] at d0
  have CN := count_any x
  by_cases hcp : 0 < countP x
  ·have hcp' : (0 : Int) < (countP x : Nat) := by omega
   have S : ∀ w2, (Instr.slice 41 (.slice (some ⟨b, o, none⟩) t.length c) (some (.int .i64 1)) none none).run Tryz.prog w2 = .ok (.slice (if c = 1 then (some (⟨b, o, none⟩ : Addr)) else (some (⟨b, o, none⟩ : Addr)).map (·.add 1)) (t.length - 1) (c - 1)) w2 := slice_from (some ⟨b, o, none⟩) t.length c 1 (by omega) hc
   have hI2 := Is.from hI1 c 1 hc
   rw [hr] at hI2
   have hrl : t.length - 1 = r.length := by rw [ht]; simp
   generalize (if c = 1 then (some (⟨b, o, none⟩ : Addr)) else (some (⟨b, o, none⟩ : Addr)).map (·.add 1)) = q' at S hI2
   have NB := numb_any q' r (c - 1) (countP x) _ (by omega) (by omega) (countP_le x) hI2
   rw [hrl] at S
   rw [if_pos hcp] at HP
   generalize countP x = k at *
   generalize firstP t last = E at HP |-
   rw [<- HP.out] at NB
   clear hu hT hT1 hI hI1 hI2 HP ht hx hr hrl
   go_enter Tryz.func196, Tryz.ntmps196
   go_wp2_with (first | (go_at_call 204; refine (CN _).mono ?_; rintro e w' ⟨rfl, rfl⟩) | (go_at_call 205; refine NB.mono ?_; rintro e w' ⟨rfl, hg⟩; obtain ⟨r0, r1, r2, f0, f1, f2⟩ := box3 hg; simp only [escV]))
   refine bodyPost_ret (v := escV E) (put3_results rfl rfl r0 r1 r2 _ _ _) rfl ⟨rfl, put3_grown (grown_of_alloc hg) (Nat.le_refl _) _ _ _⟩
  ·have hcp0 : countP x = 0 := by omega
   rw [if_neg hcp] at HP
   rw [hcp0] at CN
   have HL : Hid (Tab (w.alloc (.cells #[.int .i64 0, .int .i64 0, .int .i64 0] 217))) := hT1
   have G0 := grown_new w (.cells #[.int .i64 0, .int .i64 0, .int .i64 0] 217)
   generalize firstP t last = E at HP |-
   clear hu ht hx hr hcp hcp0
   have HG : Hid (∀ W, (w.alloc (.cells #[.int .i64 0, .int .i64 0, .int .i64 0] 217)).grownBy W none -> _ /\ _ /\ _ /\ _ /\ _ /\ _) := fun W h => box3 h
   have HI : Hid (Is (w.alloc (.cells #[.int .i64 0, .int .i64 0, .int .i64 0] 217)) (some ⟨b, o, none⟩) t) := hI1
   have HD : Hid ((w.alloc (.cells #[.int .i64 0, .int .i64 0, .int .i64 0] 217)).cell? ⟨b, o, none⟩ = some (.int .i64 x)) := d0
   clear hI hI1 hT hT1
   go_enter Tryz.func196, Tryz.ntmps196
   go_wp2_with (first | (go_at_call 204; refine (CN _).mono ?_; rintro e w' ⟨rfl, rfl⟩) | (refine wpList_load_tab rfl _ rfl rfl HL.out ?_))
   clear HL d0
   generalize w.alloc (.cells #[.int .i64 0, .int .i64 0, .int .i64 0] 217) = W1 at HG HI HD G0
   go_loopw [31] (fun iv wr => ∃ (j : Nat), j <= 18 /\ iv = .int .i64 j /\ Hid (W1.grownBy wr none) /\ Hid (∀ i, i < j -> sgn i ≠ x)) (fun iv _ => 18 - (intOf iv).toNat)
   case atStart => exact ⟨0, by omega, rfl, grown_refl _, fun i h => by omega⟩
   case round =>
    obtain ⟨j, hj, rfl, Hg, Hn⟩ := hrel
    by_cases hlt : j < 18
    ·have hlt' : (j : Int) < 18 := by omega
     have IX := index_tab j hlt
     have d0 := (grown_below Hg.out).cell (p := ⟨b, o, none⟩) (World.block_lt_of_cell? W1 _ HD.out)
     rw [HD.out] at d0
     have hbl := World.block_lt_of_cell? wr _ d0
     have hS : Hid (sgn j = x -> E = ⟨2, pnt j, 0⟩) := fun e => by rw [HP.out, <- e, short_some j hlt]
     have HN1 : Hid (sgn j ≠ x -> ∀ i, i < j + 1 -> sgn i ≠ x) := fun h i hi => by
      by_cases e : i = j
      ·subst e; exact h
      ·exact Hn.out i (by omega)
     generalize sgn j = sj at IX hS HN1
     generalize pnt j = pj at IX hS
     have d1 : (wr.alloc (.cells #[.int .i64 sj, .int .i64 pj] 242)).cell? ⟨b, o, none⟩ = some (.int .i64 x) := ((Below.refl _ wr).alloc (Nat.le_refl _) _).cell (p := ⟨b, o, none⟩) hbl |>.trans d0
     have G1 : Hid (W1.grownBy (wr.alloc (.cells #[.int .i64 sj, .int .i64 pj] 242)) none) := grown_trans Hg.out (grown_new _ _)
     by_cases he : sj = x
     ·subst he
      obtain ⟨r0, r1, r2, f0, f1, f2⟩ := HG.out _ G1.out
      have hb0 : (wr.alloc (.cells #[.int .i64 sj, .int .i64 pj] 242)).heap[w.heap.size]? = (wr.alloc (.cells #[.int .i64 sj, .int .i64 pj] 242)).heap[w.heap.size]? := rfl
      clear HG HN1 Hn HP hb0
      go_wp2
      go_quiet (fail)
      go_wp2
      rw [hS.out (by trivial)]
      exact bodyPost_ret (v := escV ⟨2, pj, 0⟩) (put3_results (W := World.drewN _ _) rfl rfl (by simpa using r0) (by simpa using r1) (by simpa using r2) _ _ _) rfl ⟨rfl, put3_grown (grown_trans (grown_trans G0 G1.out) (grown_drewN _ _)) (Nat.le_refl _) _ _ _⟩
     ·have he' : (sj == x) = false := by simpa using he
      clear HG
      go_wp2
      go_quiet (fail)
      go_wp2
      go_roundw
      case rel => exact ⟨j + 1, by omega, by go_num, grown_trans G1.out (grown_drewN _ _), HN1.out he⟩
      case measure => simp [intOf]; omega
    ·obtain rfl : j = 18 := by omega
     have hE : Hid (E = ⟨0, 0, 2⟩) := by
      show _ = _
      rw [HP.out, short_none Hn.out]
     obtain ⟨r0, r1, r2, f0, f1, f2⟩ := HG.out _ Hg.out
     clear HG HP
     go_wp2
     rw [hE.out]
     exact bodyPost_ret (v := escV ⟨0, 0, 2⟩) (put3_results rfl rfl r0 r1 r2 _ _ _) rfl ⟨rfl, put3_grown (grown_trans G0 Hg.out) (Nat.le_refl _) _ _ _⟩
end Go.Proofs.YtipbhdhiklmieaaGreatDoor.P7
