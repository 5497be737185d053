/- Texts without quotes, in plain terms: what is safe, where such a text ends, and by what; the laws of these terms. -/
import Derived.Test.YtipbhdhiklmieaaGreatDoorZAI
import Derived.Test.YtipbhdhiklmieaaGreatDoorZAB
import Derived.Sort.QuietIn
import Derived.Test.YtipbhdhiklmieaaGreatDoorZAN
set_option linter.all false
set_option maxRecDepth 100000
set_option maxHeartbeats 2000000
namespace Go.Proofs.YtipbhdhiklmieaaGreatDoor
open Go.RowKit Go.Shelf
theorem grown_of_below {A B : World} (h : Below A.heap.size A B) : A.grownBy B none := ⟨h.os, h.tape, h.output, h.size, fun k hk _ => h.block k hk⟩
theorem drop_at {t : List Int} {j : Nat} (h : j < t.length) : t.drop j = iAt t j :: t.drop (j + 1) := by
 rw [List.drop_eq_getElem_cons h]
 simp [iAt, h]
def Xs (q : Option Addr) (t : List Int) (Bb : Nat) (b : Nat) : Prop := b = Bb \/ (0 < t.length /\ ∃ a, q = some a /\ b = a.block)
theorem xs_lt {q : Option Addr} {t : List Int} {Bb B : Nat} {w : World} (hI : Is w q t) (h1 : Bb < B) (h2 : w.heap.size <= B) (b : Nat) (h : Xs q t Bb b) : b < B := by
 rcases h with rfl | ⟨hl, a, ha, rfl⟩
 ·exact h1
 ·exact Nat.lt_of_lt_of_le (hI.lt a ha hl) h2
theorem Kq.drewN {X : Nat -> Prop} (A : World) (k : Nat) : Kq X A (A.drewN k) := ⟨Nat.le_refl _, fun _ _ => rfl⟩
theorem Kq.box {q : Option Addr} {t : List Int} {Bb : Nat} {A C : World} (h : Kq (Xs q t Bb) A C) : C.cell? ⟨Bb, 0, none⟩ = A.cell? ⟨Bb, 0, none⟩ := World.cell?_of_block (h.same Bb (.inl rfl))
theorem Kq.is {q : Option Addr} {Bb : Nat} {A C : World} {t : List Int} (h : Kq (Xs q t Bb) A C) (hI : Is A q t) : Is C q t := by
 rcases hI with e | ⟨b, o, rfl, hc⟩
 ·exact .inl e
 ·exact .inr ⟨b, o, rfl, fun j hj => (World.cell?_of_block (h.same b (.inr ⟨by omega, _, rfl, rfl⟩))).trans (hc j hj)⟩
theorem grown_drewN (w : World) (k : Nat) : w.grownBy (w.drewN k) none := ⟨rfl, rfl, rfl, Nat.le_refl _, fun _ _ _ => rfl⟩
theorem drop_cons {α : Type} {T : List α} {i : Nat} {x : α} {r : List α} (h : T.drop i = x :: r) : T[i]? = some x /\ T.drop (i + 1) = r /\ i < T.length := by
 have hl : i < T.length := by
  by_cases hl : i < T.length
  ·exact hl
  ·rw [List.drop_eq_nil_of_le (by omega)] at h; cases h
 rw [List.drop_eq_getElem_cons hl] at h
 injection h with h1 h2
 exact ⟨by rw [List.getElem?_eq_getElem hl, h1], h2, hl⟩
theorem Kq.below {X : Nat -> Prop} {A B : World} (h : Below A.heap.size A B) (hX : ∀ b, X b -> b < A.heap.size) : Kq X A B := ⟨h.size, fun b hb => h.block b (hX b hb)⟩
theorem boxed_own' {W W' : World} {b : Nat} {ty : TypeId} {v : Value} {row : Option Nat} (hv : Boxed W b ty v) (hgr : W.grownBy W' row) {B : Nat} (hr : ∀ r, row = some r -> B <= r /\ ∃ o : Obj, W.heap[r]? = some o /\ o.isCells = false) : Boxed W' b ty v := by
 refine hv.kept hgr fun e => ?_
 obtain ⟨-, o, ho, hc⟩ := hr _ e.symm
 rw [show W.heap[b]? = _ from hv] at ho; cases ho; cases hc
theorem Kq.putObj {X : Nat -> Prop} {B : Nat} (hX : ∀ b, X b -> b < B) (W : World) (l : Nat) (o o' : Obj) (hl : B <= l) (h : W.heap[l]? = some o) (hc : o.isCells = false) : Kq X W (W.putObj l o') :=
 ⟨by simp [World.putObj], fun b hb => World.putObj_heap_other (by have := hX b hb; omega)⟩
theorem Kq.alloc {X : Nat -> Prop} {B : Nat} (hX : ∀ b, X b -> b < B) (W : World) (o : Obj) (h : B <= W.heap.size) : Kq X W (W.alloc o) :=
 ⟨by simp, fun b hb => Below.heap_alloc W o b (by have := hX b hb; omega)⟩
theorem keeps_below {B : Nat} {A C : World} (h : Below A.heap.size A C) : KeepsFrom B A C := ⟨h.size, fun k o hk ho hc => (h.block k (Array.getElem?_eq_some_iff.1 ho).1).trans ho⟩
theorem set1 {w W : World} {B b : Nat} {v0 : Value} (b0 : Boxed W b 3 v0) (hB : b < B) (hw : w.heap.size <= b) (hb : Below w.heap.size w W) (x : Value) :
  Boxed (W.setCell ⟨b, 0, none⟩ x) b 3 x /\ KeepsFrom B W (W.setCell ⟨b, 0, none⟩ x) /\ Below w.heap.size w (W.setCell ⟨b, 0, none⟩ x) := by
 refine ⟨b0.set x, ⟨by simp [World.setCell], fun k o hk ho hc => ?_⟩, hb.setCell hw _⟩
 rw [Deep.blk_setCell_other _ _ _ _ (by dsimp only; omega)]
 exact ho
theorem boxed_put {W : World} {b D : Nat} {ty : TypeId} {v : Value} {ds : Option (List Deferred)} (h : Boxed W b ty v) (hK : W.heap[D]? = some (.deferred ds)) {o : Obj} : Boxed (W.putObj D o) b ty v := by
 refine (World.putObj_heap_other (fun e => ?_)).trans h
 subst e
 rw [show W.heap[b]? = _ from h] at hK
 cases hK
end Go.Proofs.YtipbhdhiklmieaaGreatDoor
namespace Go.Proofs.YtipbhdhiklmieaaGreatDoor.P9
open Go.RowKit
def safeP (c : Int) (fl : Bool) : Bool := nameP c || (!fl && flowP c)
theorem flow_named {c : Int} (h : flowP c = true) : printP c = true /\ blankP c = false /\ ¬ c = 10 /\ ¬ c = 13 /\ ¬ c = 65279 := by
 unfold flowP at h
 have h := of_decide_eq_true h
 rcases h with rfl | rfl | rfl | rfl | rfl <;> decide
def ahP (t : List Int) (i : Nat) : Int := if 0 < i then iAt t (i - 1) else 10
def bhP (t : List Int) (i : Nat) : Int := if i + 1 < t.length then iAt t (i + 1) else 10
def enP (a c b : Int) (fl : Bool) : Bool := if c = 58 then !safeP b fl else if c = 35 then blankP a else fl && flowP c
def enAt (t : List Int) (fl : Bool) (i : Nat) : Bool := enP (ahP t i) (iAt t i) (bhP t i) fl
def stopF (t : List Int) (fl : Bool) : Nat -> Nat -> Nat
 | k, 0 => k
 | k, n + 1 => if enAt t fl k = true then k else stopF t fl (k + 1) n
def stopP (t : List Int) (fl : Bool) : Nat := stopF t fl 0 t.length
theorem stopF_spec (t : List Int) (fl : Bool) : ∀ (n k : Nat), k <= stopF t fl k n /\ stopF t fl k n <= k + n /\ (∀ j, k <= j -> j < stopF t fl k n -> enAt t fl j = false) /\ (stopF t fl k n < k + n -> enAt t fl (stopF t fl k n) = true)
 | 0, k => by
  refine ⟨Nat.le_refl _, Nat.le_refl _, fun j h1 h2 => ?_, fun h => ?_⟩
  ·simp [stopF] at h2; omega
  ·simp [stopF] at h
 | n + 1, k => by
  rw [stopF]
  split
  ·rename_i h
   exact ⟨Nat.le_refl _, by omega, fun j h1 h2 => by omega, fun _ => h⟩
  ·rename_i h
   obtain ⟨h1, h2, h3, h4⟩ := stopF_spec t fl n (k + 1)
   refine ⟨by omega, by omega, fun j a b => ?_, fun a => h4 (by omega)⟩
   by_cases e : j = k
   ·subst e; simpa using h
   ·exact h3 j (by omega) b
theorem stop_le (t : List Int) (fl : Bool) : stopP t fl <= t.length := by have := (stopF_spec t fl t.length 0).2.1; unfold stopP; omega
theorem stop_not {t : List Int} {fl : Bool} {j : Nat} (h : j < stopP t fl) : enAt t fl j = false := (stopF_spec t fl t.length 0).2.2.1 j (Nat.zero_le _) h
theorem stop_at {t : List Int} {fl : Bool} (h : stopP t fl < t.length) : enAt t fl (stopP t fl) = true := (stopF_spec t fl t.length 0).2.2.2 (by unfold stopP at h; omega)
theorem stop_eq {t : List Int} {fl : Bool} {s : Nat} (h1 : s <= t.length) (h2 : ∀ j, j < s -> enAt t fl j = false) (h3 : s < t.length -> enAt t fl s = true) : stopP t fl = s := by
 rcases Nat.lt_trichotomy (stopP t fl) s with h | h | h
 ·have := stop_at (t := t) (fl := fl) (by omega)
  rw [h2 _ h] at this
  cases this
 ·exact h
 ·have := h3 (by have := stop_le t fl; omega)
  rw [stop_not h] at this
  cases this
def trimP (t : List Int) : Nat -> Nat
 | 0 => 0
 | n + 1 => if blankP (iAt t n) = true then trimP t n else n + 1
theorem trim_le (t : List Int) : ∀ n, trimP t n <= n
 | 0 => Nat.le_refl _
 | n + 1 => by rw [trimP]; split; have := trim_le t n; omega; omega
def endP (t : List Int) (fl : Bool) : Nat := trimP t (stopP t fl)
def begP (t : List Int) (fl : Bool) : Bool :=
 decide (0 < t.length) && safeP (iAt t 0) fl && (if iAt t 0 = 45 \/ iAt t 0 = 63 \/ iAt t 0 = 58 then safeP (bhP t 0) fl else !signP (iAt t 0))
theorem end_le (t : List Int) (fl : Bool) : endP t fl <= t.length := Nat.le_trans (trim_le _ _) (stop_le _ _)
theorem safe_any (c : Int) (fl : Bool) (w : World) :
  Calls Tryz.prog 113 #[.int .i64 c, .bool fl] w fun e w' => e = .returned (.bool (safeP c fl)) /\ w' = w := by
 have NM := name_any c
 have FL := flow_any c
 unfold safeP
 generalize nameP c = a at NM
 generalize flowP c = b at FL
 cases a <;> cases b <;> cases fl <;>
 ·go_enter Tryz.func113, Tryz.ntmps113
  go_wp2_with (first | (go_at_call 145; refine (NM _).mono ?_; rintro e w' ⟨rfl, rfl⟩) | (go_at_call 155; refine (FL _).mono ?_; rintro e w' ⟨rfl, rfl⟩))
  go_ret
  exact ⟨rfl, rfl⟩
def sgV (t : List Int) (i : Nat) : Value := .agg #[.int .i64 (ahP t i), .int .i64 (iAt t i), .int .i64 (bhP t i)]
theorem signAt_any (q : Option Addr) (t : List Int) (c i : Nat) (w : World) (hn : t.length <= 1099511627776) (hI : Is w q t) (hi : i < t.length) :
  Calls Tryz.prog 114 #[.slice q t.length c, .int .i64 i] w fun e w' => e = .returned (sgV t i) /\ Below w.heap.size w w' := by
 have hi' : (i : Int) < t.length := by omega
 obtain ⟨b, o, rfl, hu⟩ := hI.at (by omega)
 have hb := World.block_lt_of_cell? w _ (hu i hi)
 have c0 := hu i hi
 unfold sgV ahP bhP
 by_cases h0 : 0 < i
 ·have h0' : (0 : Int) < i := by omega
  have e1 : (i : Int) - 1 = ((i - 1 : Nat) : Int) := by omega
  have c1 := hu (i - 1) (by omega)
  rw [if_pos h0]
  by_cases h1 : i + 1 < t.length
  ·have h1' : (i : Int) + 1 < t.length := by omega
   have c2 := hu (i + 1) h1
   rw [if_pos h1]
   generalize iAt t i = x at c0
   generalize iAt t (i - 1) = y at c1
   generalize iAt t (i + 1) = z at c2
   clear hu hI
   go_enter Tryz.func114, Tryz.ntmps114
   go_wp2
   exact bodyPost_ret (v := .agg #[.int .i64 y, .int .i64 x, .int .i64 z]) (by simp [results, Tryz.results114, go_sem]) rfl ⟨rfl, ((Below.refl _ w).alloc (Nat.le_refl _) _).alloc (by simp) _⟩
  ·have h1' : ¬ (i : Int) + 1 < t.length := by omega
   rw [if_neg h1]
   generalize iAt t i = x at c0
   generalize iAt t (i - 1) = y at c1
   clear hu hI
   go_enter Tryz.func114, Tryz.ntmps114
   go_wp2
   exact bodyPost_ret (v := .agg #[.int .i64 y, .int .i64 x, .int .i64 10]) (by simp [results, Tryz.results114, go_sem]) rfl ⟨rfl, ((Below.refl _ w).alloc (Nat.le_refl _) _).alloc (by simp) _⟩
 ·have h0' : ¬ (0 : Int) < i := by omega
  rw [if_neg h0]
  by_cases h1 : i + 1 < t.length
  ·have h1' : (i : Int) + 1 < t.length := by omega
   have c2 := hu (i + 1) h1
   rw [if_pos h1]
   generalize iAt t i = x at c0
   generalize iAt t (i + 1) = z at c2
   clear hu hI
   go_enter Tryz.func114, Tryz.ntmps114
   go_wp2
   exact bodyPost_ret (v := .agg #[.int .i64 10, .int .i64 x, .int .i64 z]) (by simp [results, Tryz.results114, go_sem]) rfl ⟨rfl, ((Below.refl _ w).alloc (Nat.le_refl _) _).alloc (by simp) _⟩
  ·have h1' : ¬ (i : Int) + 1 < t.length := by omega
   rw [if_neg h1]
   generalize iAt t i = x at c0
   clear hu hI
   go_enter Tryz.func114, Tryz.ntmps114
   go_wp2
   exact bodyPost_ret (v := .agg #[.int .i64 10, .int .i64 x, .int .i64 10]) (by simp [results, Tryz.results114, go_sem]) rfl ⟨rfl, ((Below.refl _ w).alloc (Nat.le_refl _) _).alloc (by simp) _⟩
theorem ends_any (a c b : Int) (fl : Bool) (w : World) :
  Calls Tryz.prog 183 #[.agg #[.int .i64 a, .int .i64 c, .int .i64 b], .bool fl] w fun e w' => e = .returned (.bool (enP a c b fl)) /\ Below w.heap.size w w' := by
 unfold enP
 by_cases h1 : c = 58
 ·subst h1
  rw [if_pos rfl]
  have SF := safe_any b fl
  generalize safeP b fl = z at SF
  go_enter Tryz.func183, Tryz.ntmps183
  go_wp2_with (first | (go_at_call 113; refine (SF _).mono ?_; rintro e w' ⟨rfl, rfl⟩))
  go_ret
  exact ⟨rfl, (Below.refl _ w).alloc (Nat.le_refl _) _⟩
 ·rw [if_neg h1]
  have h1' : (c == 58) = false := by simpa using h1
  by_cases h2 : c = 35
  ·subst h2
   rw [if_pos rfl]
   have SF := blank_any a
   generalize blankP a = z at SF
   go_enter Tryz.func183, Tryz.ntmps183
   go_wp2_with (first | (go_at_call 55; refine (SF _).mono ?_; rintro e w' ⟨rfl, rfl⟩))
   go_ret
   exact ⟨rfl, (Below.refl _ w).alloc (Nat.le_refl _) _⟩
  ·rw [if_neg h2]
   have h2' : (c == 35) = false := by simpa using h2
   have SF := flow_any c
   generalize flowP c = z at SF
   cases fl <;>
   ·go_enter Tryz.func183, Tryz.ntmps183
    go_wp2_with (first | (go_at_call 155; refine (SF _).mono ?_; rintro e w' ⟨rfl, rfl⟩))
    go_ret
    exact ⟨rfl, (Below.refl _ w).alloc (Nat.le_refl _) _⟩
end Go.Proofs.YtipbhdhiklmieaaGreatDoor.P9
namespace Go.Proofs.YtipbhdhiklmieaaGreatDoor.P9
open Go.RowKit Go.Shelf
attribute [local go_sem] Oper.semAt_some
theorem Kq.refl (X : Nat -> Prop) (A : World) : Kq X A A := ⟨Nat.le_refl _, fun _ _ => rfl⟩
theorem signs_in (n : Nat) (p : Option Addr) (len cap : Nat) (w : World) :
  CallsIn Fence.wide n Tryz.prog 182 #[.slice p len cap] w fun e w' => e = .returned (.func (.func 199) #[] #[.pointer (some ⟨w.heap.size, 0, none⟩)]) /\ w' = w.alloc (.cells #[.slice p len cap] 41) := by
 refine callsIn_of_wp Tryz.func182 rfl trivial ?_ rfl
 simp only [Tryz.ntmps182, frm, Nat.reduceAdd, Nat.reduceSub]
 gi_wp2
 go_ret
 exact ⟨rfl, rfl⟩
def encS (t : List Int) (i : Nat) : Array Value := #[.int .i64 (i : Nat), sgV t i]
theorem range_at {n i x : Nat} (h : (List.range n)[i]? = some x) : x = i /\ i < n := by
 obtain ⟨h1, h2⟩ := List.getElem?_eq_some_iff.1 h
 simp at h1 h2
 exact ⟨h2.symm, h1⟩
theorem signs1_in (n l Bb cap : Nat) (q : Option Addr) (t : List Int) (hn : t.length <= 1099511627776) (J Jx : Nat -> World -> Prop) (W : World)
  (c1 : W.cell? ⟨Bb, 0, none⟩ = some (.slice q t.length cap)) (hI : Is W q t) (hJ : AbN J)
  (hY : ∀ (m i : Nat) (x : Nat) (W1 : World), (List.range t.length)[i]? = some x -> J i W1 -> YieldAt Fence.wide m Tryz.prog l (encS t x) W1 fun e W' =>
   (e = .returned (.bool true) /\ J (i + 1) W' /\ Kq (Xs q t Bb) W1 W') \/ (e = .returned (.bool false) /\ Jx (i + 1) W')) (h0 : J 0 W) :
  CallsIn Fence.wide n Tryz.prog 199 #[.func (.yield l) #[] #[], .pointer (some ⟨Bb, 0, none⟩)] W fun e W' => (∃ v, e = .returned v) /\ (J (List.range t.length).length W' \/ ∃ i, Jx i W') := by
 rw [List.length_range]
 have HY : Hid (∀ (m i : Nat) (x : Nat) (W1 : World), (List.range t.length)[i]? = some x -> J i W1 -> YieldAt Fence.wide m Tryz.prog l (encS t x) W1 fun e W' =>
   (e = .returned (.bool true) /\ J (i + 1) W' /\ Kq (Xs q t Bb) W1 W') \/ (e = .returned (.bool false) /\ Jx (i + 1) W')) := hY
 clear hY
 have hn2 : (t.length : Int) <= 1099511627776 := by omega
 refine callsIn_of_wp Tryz.func199 rfl trivial ?_ rfl
 simp only [Tryz.ntmps199, frm, Nat.reduceAdd, Nat.reduceSub]
 gi_wp2
 gi_loopw [6] (fun iv wr => ∃ (k : Nat), k <= t.length /\ iv = .int .i64 k /\ J k wr /\ Kq (Xs q t Bb) W wr) (fun iv _ => t.length - (intOf iv).toNat)
 case atStart => exact ⟨0, Nat.zero_le _, rfl, h0, Kq.refl _ _⟩
 case round =>
  obtain ⟨k, hk, rfl, hJr, hkr⟩ := hrel
  have d1 := hkr.box.trans c1
  by_cases hlt : k < t.length
  ·have hli : (k : Int) < t.length := by omega
   have hIr := hkr.is hI
   have SA := fun m => (callsIn_wide (n := m)).2 (signAt_any q t cap k wr hn hIr hlt)
   have hXs := xs_lt (Bb := Bb) (B := wr.heap.size) hIr (World.block_lt_of_cell? wr _ d1) (Nat.le_refl _)
   gi_wp2
   refine ⟨trivial, (fun h => by cases h), ?_⟩
   gi_at_call 114
   refine (SA _).mono ?_
   rintro e W2 ⟨rfl, hb2⟩
   have Y := HY.out (n - 1) k k W2 (by simp [hlt]) (hJ _ _ _ hJr (grown_of_below hb2))
   simp only [encS] at Y
   obtain ⟨fn, tmps, assign, body, hy, hR⟩ := Y
   clear HY SA
   gi_wp2
   refine ⟨(fun h => by cases h), hR.mono ?_⟩
   rintro e3 W3 (⟨rfl, hJ3, hk3⟩ | ⟨rfl, hJx3⟩)
   ·clear hR hy
    gi_wp2
    go_roundw
    case rel => exact ⟨k + 1, by omega, by go_num, hJ3, (hkr.trans (Kq.below hb2 hXs)).trans hk3⟩
    case measure => simp [intOf]; omega
   ·clear hR hy
    gi_wp2
    refine bodyPost_ret (results_none rfl _ _ _) rfl ?_
    exact ⟨⟨_, rfl⟩, .inr ⟨_, hJx3⟩⟩
  ·obtain rfl : k = t.length := by omega
   clear HY hJ
   gi_wp2
   go_end0
   exact ⟨⟨_, rfl⟩, .inl hJr⟩
theorem signs_seq (n Bb cap : Nat) (q : Option Addr) (t : List Int) (hn : t.length <= 1099511627776) (w : World) (c1 : w.cell? ⟨Bb, 0, none⟩ = some (.slice q t.length cap)) (hI : Is w q t) :
  SeqT n Tryz.prog 199 #[.pointer (some ⟨Bb, 0, none⟩)] (encS t) (List.range t.length) (Kq (Xs q t Bb)) w := fun l J Jx W hW _ hJ hJx hY h0 =>
 signs1_in n l Bb cap q t hn J Jx W ((hW.cell (p := ⟨Bb, 0, none⟩) (World.block_lt_of_cell? w _ c1)).trans c1) (hI.on hW) hJ hY h0
structure Ie (w : World) (t : List Int) (fl : Bool) (i : Nat) (W : World) : Prop where
 e : ∀ j, j < i -> enAt t fl j = false
 b0 : Boxed W w.heap.size 4 (.bool fl)
 b1 : Boxed W (w.heap.size + 1) 3 (.int .i64 0)
 below : Below w.heap.size w W
 room : w.heap.size + 3 <= W.heap.size
def Ixe (w : World) (t : List Int) (fl : Bool) (c : Code) (i : Nat) (W : World) : Prop :=
 c = .ret /\ Boxed W (w.heap.size + 1) 3 (.int .i64 (stopP t fl : Nat)) /\ Below w.heap.size w W
theorem Ie.own {w : World} {t : List Int} {fl : Bool} {B : Nat} (hB : w.heap.size <= B) : OwnFrom B (Ie w t fl) := by
 rintro s W W' row ⟨h1, h2, h3, h4, h5⟩ hgr hr
 have h6 := h4.grown hgr h4.size (fun k e => by have := (hr k e).1; omega)
 exact ⟨h1, boxed_own' h2 hgr hr, boxed_own' h3 hgr hr, h6, Nat.le_trans h5 hgr.size⟩
theorem Ixe.own {w : World} {t : List Int} {fl : Bool} (c : Code) {B : Nat} (hB : w.heap.size <= B) : OwnFrom B (Ixe w t fl c) := by
 rintro s W W' row ⟨h1, h2, h4⟩ hgr hr
 exact ⟨h1, boxed_own' h2 hgr hr, h4.grown hgr h4.size (fun k e => by have := (hr k e).1; omega)⟩
theorem results_box {fn : Func} {p : Tmp} (h : fn.results = #[.cell p 3]) {tmps : Array Value} {W : World} {b0 : Nat} {x : Int} (hp : tmps.getD p undef = .pointer (some ⟨b0, 0, none⟩))
  (h0 : Boxed W b0 3 (.int .i64 x)) : (results fn tmps).run Tryz.prog W = .ok (.int .i64 x) W := by
 have hp' : tmps[p]?.getD undef = .pointer (some ⟨b0, 0, none⟩) := by simpa using hp
 have c0 := h0.cell
 simp [results, h, hp', asAddr, go_sem, c0]
theorem stop_any (q : Option Addr) (t : List Int) (c : Nat) (fl : Bool) (w : World) (hn : t.length <= 1099511627776) (hI : Is w q t) :
  Calls Tryz.prog 158 #[.slice q t.length c, .bool fl] w fun e w' => e = .returned (.int .i64 (stopP t fl : Nat)) /\ Below w.heap.size w w' := by
 refine (callsIn_wide (n := 9)).1 ?_
 have b0 := Boxed.new w 4 (.bool fl)
 have b1 := Boxed.new (w.alloc (.cells #[.bool fl] 4)) 3 (.int .i64 0)
 have b2 := Boxed.new ((w.alloc (.cells #[.bool fl] 4)).alloc (.cells #[.int .i64 0] 3)) 41 (.slice q t.length c)
 have hs1 : (w.alloc (.cells #[.bool fl] 4)).heap.size = w.heap.size + 1 := by simp
 have hs2 : ((w.alloc (.cells #[.bool fl] 4)).alloc (.cells #[.int .i64 0] 3)).heap.size = w.heap.size + 1 + 1 := by simp
 rw [hs1] at b1
 rw [hs2] at b2
 have hB1 := ((Below.refl w.heap.size w).alloc (Nat.le_refl _) (.cells #[.bool fl] 4)).alloc (by simp) (.cells #[.int .i64 0] 3)
 have hB2 := hB1.alloc (by simp; omega) (.cells #[.slice q t.length c] 41)
 have hs3 : (((w.alloc (.cells #[.bool fl] 4)).alloc (.cells #[.int .i64 0] 3)).alloc (.cells #[.slice q t.length c] 41)).heap.size = w.heap.size + 1 + 1 + 1 := by simp
 have c0 := ((b0.alloc (.cells #[.int .i64 0] 3)).alloc (.cells #[.slice q t.length c] 41))
 have c1 := b1.alloc (.cells #[.slice q t.length c] 41)
 have SG := fun m => signs_in m q t.length c ((w.alloc (.cells #[.bool fl] 4)).alloc (.cells #[.int .i64 0] 3))
 have hI2 := hI.on hB2
 have hn2 : (t.length : Int) <= 1099511627776 := by omega
 refine callsIn_of_wp_marks Tryz.func158 rfl trivial ?_ rfl
 simp only [Tryz.ntmps158, frm, Nat.reduceAdd, Nat.reduceSub]
 clear b0 b1 hs1 hs2
 gi_wp2_with (first | (refine ⟨trivial, ?_⟩; gi_at_call 182; refine (SG _).mono ?_; rintro e W2 ⟨rfl, rfl⟩))
 generalize (((w.alloc (.cells #[.bool fl] 4)).alloc (.cells #[.int .i64 0] 3)).alloc (.cells #[.slice q t.length c] 41)) = W3 at b2 hB2 hs3 c0 c1 hI2 |-
 clear SG hB1
 have hXs := xs_lt (Bb := w.heap.size + 1 + 1) (B := W3.heap.size) hI (by omega) (by omega)
 have SQ := signs_seq (9 - 1) (w.heap.size + 1 + 1) c q t (by omega) W3 b2.cell hI2
 refine wpIn_rangeFuncB (gf := 199) (lb := #[.pointer (some ⟨w.heap.size + 1 + 1, 0, none⟩)]) rfl (enters_of Tryz.func199 (by kernel_rfl) rfl) SQ (fun h k => Kq.trans h k) (Kq.putObj hXs) (Below.refl _ _) (fun _ => rfl)
  (Ie w t fl) (Ixe w t fl) (Ie.own (by omega)) (fun c => Ixe.own c (by omega)) ⟨fun j hj => by omega, c0, c1, hB2, by omega⟩
  (fun x => .cells #[.int .i64 (ahP t x), .int .i64 (iAt t x), .int .i64 (bhP t x)] 166) (fun W x h => Kq.alloc hXs W _ h)
  (fun x b => { tmps := #[.slice q t.length c, .bool fl, undef, .pointer (some ⟨w.heap.size, 0, none⟩), .pointer (some ⟨w.heap.size + 1, 0, none⟩), .int .i64 (x : Nat), .pointer (some ⟨b, 0, none⟩), .slice q t.length c, .func (.func 199) #[] #[.pointer (some ⟨w.heap.size + 1 + 1, 0, none⟩)], .int .i64 (x : Nat), sgV t x, undef, undef, undef, undef, undef, undef], defers := [] }) ?assign ?body ?done ?stop
 case assign =>
  intro m l x W K hK
  simp only [encS, sgV] at hK |-
  gi_wp2
  exact hK
 case body =>
  clear SQ c0 c1 b2 hI2
  rintro m l i b x W hx ⟨he, b0, b1, hbW, hrm⟩ xb
  obtain ⟨rfl, hlt⟩ := range_at hx
  have e0 : W.cell? ⟨b, 0, none⟩ = some (.int .i64 (ahP t x)) := by simp [World.cell?, xb]
  have e1 : W.cell? ⟨b, 1, none⟩ = some (.int .i64 (iAt t x)) := by simp [World.cell?, xb]
  have e2 : W.cell? ⟨b, 2, none⟩ = some (.int .i64 (bhP t x)) := by simp [World.cell?, xb]
  have f0 := b0.cell
  have EN := fun m => CallsIn.inRound l ((callsIn_wide (n := m)).2 (ends_any (ahP t x) (iAt t x) (bhP t x) fl W))
  have hen : enP (ahP t x) (iAt t x) (bhP t x) fl = enAt t fl x := rfl
  rw [hen] at EN
  have HE : Hid (∀ j, j < x -> enAt t fl j = false) := he
  have hXW : ∀ b, Xs q t (w.heap.size + 1 + 1) b -> b < W.heap.size := fun b hb => Nat.lt_of_lt_of_le (hXs b hb) (by omega)
  clear he hx xb hen
  cases hv : enAt t fl x with
  | true =>
   rw [hv] at EN
   have HS : Hid (stopP t fl = x) := stop_eq (by omega) HE.out (fun _ => hv)
   clear hv
   gi_wp2
   refine ⟨trivial, (fun h => by cases h), ?_⟩
   gi_at_call 183
   refine (EN _).mono ?_
   rintro e W2 ⟨rfl, hb2⟩
   have g1 := boxed_below b1 hb2
   have g2 := g1.cell
   have g3 := g1.frozen
   obtain ⟨P1, P2, P3⟩ := set1 (w := w) (B := W3.heap.size) g1 (by omega) (by omega) (hbW.trans (hb2.mono hbW.size)) (.int .i64 (x : Nat))
   have P4 := (keeps_below (B := W3.heap.size) hb2).trans P2
   gi_wp2
   refine ⟨P4, rfl, ?_, P3⟩
   rw [HS.out]
   exact P1
  | false =>
   rw [hv] at EN
   have HN : Hid (∀ j, j < x + 1 -> enAt t fl j = false) := fun j hj => by
    by_cases e : j = x
    ·subst e; exact hv
    ·exact HE.out j (by omega)
   clear hv
   gi_wp2
   refine ⟨trivial, (fun h => by cases h), ?_⟩
   gi_at_call 183
   refine (EN _).mono ?_
   rintro e W2 ⟨rfl, hb2⟩
   have g0 := boxed_below b0 hb2
   have g1 := boxed_below b1 hb2
   gi_wp2
   exact ⟨keeps_below hb2, Kq.below hb2 hXW, HN.out, g0, g1, hbW.trans (hb2.mono hbW.size), Nat.le_trans hrm hb2.size⟩
 case done =>
  rintro D W hD ⟨he, b0, b1, hbW, hrm⟩ hK
  rw [List.length_range] at he
  have HE : Hid (stopP t fl = t.length) := stop_eq (Nat.le_refl _) he (fun h => by omega)
  obtain ⟨P1, P2, P3⟩ := set1 (w := w) (B := W3.heap.size) b1 (by omega) (by omega) hbW (.int .i64 (t.length : Nat))
  have f0 := b1.cell
  have f1 := b1.frozen
  have hK2 := P2.same D _ hD hK rfl
  clear he SQ c0 c1 b2
  gi_wp2
  refine ⟨by simp, .inl ⟨_, _, rfl, run_takeDeferred hK2, ?_⟩⟩
  refine ⟨_, results_box rfl rfl (boxed_put P1 hK2), ?_⟩
  rw [HE.out]
  exact ⟨rfl, P3.trans (belowK_b (w := w) (Nat.le_refl _) _ D _ _ (by omega) hK2 rfl rfl)⟩
 case stop =>
  rintro D c' i W hD ⟨rfl, b1, hbW⟩ hK
  clear SQ c0 c1 b2
  gi_wp2
  refine ⟨by simp, .inl ⟨_, _, rfl, run_takeDeferred hK, ?_⟩⟩
  refine ⟨_, results_box rfl rfl (boxed_put b1 hK), ?_⟩
  exact ⟨rfl, hbW.trans (belowK_b (w := w) (Nat.le_refl _) W D _ _ (by omega) hK rfl rfl)⟩
end Go.Proofs.YtipbhdhiklmieaaGreatDoor.P9
namespace Go.Proofs.YtipbhdhiklmieaaGreatDoor.P9
open Go.RowKit
theorem End_any (q : Option Addr) (t : List Int) (c : Nat) (fl : Bool) (w : World) (hn : t.length <= 1099511627776) (hI : Is w q t) :
  Calls Tryz.prog 117 #[.slice q t.length c, .bool fl] w fun e w' => e = .returned (.int .i64 (endP t fl : Nat)) /\ Below w.heap.size w w' := by
 have ST := stop_any q t c fl w hn hI
 have hS := stop_le t fl
 have HS : Hid (trimP t (stopP t fl) = endP t fl) := rfl
 generalize endP t fl = E at HS
 generalize stopP t fl = S at ST hS HS
 have hn2 : (t.length : Int) <= 1099511627776 := by omega
 go_enter Tryz.func117, Tryz.ntmps117
 go_wp2_with (first | (go_at_call 158; refine ST.mono ?_; rintro e W ⟨rfl, hB⟩))
 have hIW := hI.on hB
 clear ST
 go_loop [5] (fun iv => ∃ (k : Nat), k <= S /\ iv = .int .i64 k /\ Hid (trimP t k = E)) (fun iv => (intOf iv).toNat)
 case atStart => exact ⟨S, Nat.le_refl _, rfl, HS⟩
 case round =>
  obtain ⟨k, hk, rfl, HE⟩ := hrel
  cases k with
  | zero =>
   have hE : E = 0 := HE.out.symm
   subst hE
   have h0 : ((0 : Nat) : Int) = 0 := rfl
   rw [h0]
   go_wp2
   go_ret
   exact ⟨rfl, hB⟩
  | succ k =>
   have h0 : (0 : Int) < ((k + 1 : Nat) : Int) := by omega
   have e1 : ((k + 1 : Nat) : Int) - 1 = (k : Int) := by omega
   obtain ⟨b, o, rfl, hu⟩ := hIW.at (by omega)
   have c0 := hu k (by omega)
   have BL := blank_any (iAt t k)
   have hT := HE.out
   have hkl : ((k + 1 : Nat) : Int) <= t.length := by omega
   have hkl' : (k : Int) < t.length := by omega
   rw [trimP] at hT
   cases hz : blankP (iAt t k) with
   | true =>
    rw [hz] at BL hT
    rw [if_pos rfl] at hT
    have HT : Hid _ := hT
    generalize iAt t k = x at c0 BL
    clear hu hIW hI hT HE hz HS
    go_wp2_with (first | (go_at_call 55; refine (BL _).mono ?_; rintro e w' ⟨rfl, rfl⟩))
    go_round
    case rel => exact ⟨k, by omega, by go_num, HT⟩
    case measure => simp [intOf]
   | false =>
    rw [hz] at BL hT
    rw [if_neg (by simp)] at hT
    subst hT
    generalize iAt t k = x at c0 BL
    clear hu hIW hI HE hz HS
    go_wp2_with (first | (go_at_call 55; refine (BL _).mono ?_; rintro e w' ⟨rfl, rfl⟩))
    go_ret
    exact ⟨rfl, hB⟩
theorem sign_any (c : Int) (w : World) :
  Calls Tryz.prog 115 #[.int .i64 c] w fun e w' => e = .returned (.bool (signP c)) /\ w' = w := by
 go_enter Tryz.func115, Tryz.ntmps115
 go_wp2_with (first | (go_at_call 156; refine (oneOf_any _ _ _ (by decide)).mono ?_; rintro e w' ⟨rfl, rfl⟩) | (go_at_call 155; refine (flow_any _ _).mono ?_; rintro e w' ⟨rfl, rfl⟩))
 all_goals
  go_ret
  refine ⟨ret_bool ?_, rfl⟩
  unfold signP; try unfold flowP at *
  rw [Bool.eq_iff_iff]
  simp only [span_iff, has_flow, has_other, has_sign, beq_iff_eq, beq_eq_false_iff_ne, bne_iff_ne, decide_eq_true_eq, Bool.or_eq_true, Bool.and_eq_true, Bool.not_eq_true', Bool.not_eq_eq_eq_not, Bool.not_true, Bool.not_false, Bool.false_eq_true, decide_eq_false_iff_not, ne_eq, iff_false, false_iff, true_iff, iff_true] at *
  try omega
theorem ah_zero (t : List Int) : ahP t 0 = 10 := rfl
theorem Begins_any (q : Option Addr) (t : List Int) (c : Nat) (fl : Bool) (w : World) (hn : t.length <= 1099511627776) (hI : Is w q t) :
  Calls Tryz.prog 71 #[.slice q t.length c, .bool fl] w fun e w' => e = .returned (.bool (begP t fl)) /\ Below w.heap.size w w' := by
 have hn2 : (t.length : Int) <= 1099511627776 := by omega
 obtain ⟨V, hV⟩ : ∃ V, begP t fl = V := ⟨_, rfl⟩
 rw [hV]
 unfold begP at hV
 by_cases h : 0 < t.length
 ·have h' : ((t.length : Int) == 0) = false := by simp; intro e; subst e; simp at h
  have h'' : (0 : Int) < t.length := by omega
  have SA := signAt_any q t c 0 w hn hI h
  unfold sgV at SA
  rw [ah_zero] at SA
  rw [decide_eq_true h] at hV
  obtain ⟨b, o, rfl, hu⟩ := hI.at h
  have c0 := hu 0 h
  rw [Nat.add_zero] at c0
  have SF := safe_any (iAt t 0) fl
  have SB := safe_any (bhP t 0) fl
  have SI := sign_any (iAt t 0)
  have e0 : ((0 : Nat) : Int) = 0 := rfl
  rw [e0] at SA
  clear hu hI h
  generalize bhP t 0 = y at SA SB hV
  cases hs : safeP (iAt t 0) fl with
  | false =>
   rw [hs] at SF hV
   obtain rfl : false = V := hV
   generalize iAt t 0 = x at c0 SF
   clear hs SA SB SI
   go_enter Tryz.func71, Tryz.ntmps71
   go_wp2_with (first | (go_at_call 113; refine (SF _).mono ?_; rintro e w ⟨rfl, rfl⟩))
   go_ret
   exact ⟨rfl, Below.refl _ _⟩
  | true =>
   rw [hs] at SF hV
   generalize safeP y fl = z at SB hV
   generalize signP (iAt t 0) = u at SI hV
   by_cases h1 : iAt t 0 = 45 \/ iAt t 0 = 63 \/ iAt t 0 = 58
   ·rw [if_pos h1] at hV
    obtain rfl : z = V := hV
    clear hs SI
    rcases h1 with h1 | h1 | h1 <;>
    ·rw [h1] at c0 SF SA
     go_enter Tryz.func71, Tryz.ntmps71
     go_wp2_with fail
     refine (SF _).mono ?_
     rintro e w ⟨rfl, rfl⟩
     go_wp2_with fail
     refine SA.mono ?_
     rintro e W ⟨rfl, hB⟩
     go_wp2_with fail
     refine (SB _).mono ?_
     rintro e w' ⟨rfl, rfl⟩
     go_wp2
     go_ret
     exact ⟨rfl, hB.alloc hB.size _⟩
   ·rw [if_neg h1] at hV
    obtain rfl : (!u) = V := hV
    have h45 : (iAt t 0 == 45) = false := by simp; omega
    have h63 : (iAt t 0 == 63) = false := by simp; omega
    have h58 : (iAt t 0 == 58) = false := by simp; omega
    generalize iAt t 0 = x at c0 SF SA SI h45 h63 h58
    clear hs SB
    go_enter Tryz.func71, Tryz.ntmps71
    go_wp2_with (first | (go_at_call 113; refine (SF _).mono ?_; rintro e w ⟨rfl, rfl⟩) | (go_at_call 114; refine SA.mono ?_; rintro e W ⟨rfl, hB⟩) | (go_at_call 115; refine (SI _).mono ?_; rintro e w' ⟨rfl, rfl⟩))
    go_ret
    exact ⟨rfl, hB.alloc hB.size _⟩
 ·have h0 : t.length = 0 := by omega
  rw [decide_eq_false h] at hV
  obtain rfl : false = V := hV
  rw [h0]
  have e0 : ((0 : Nat) : Int) = 0 := rfl
  go_enter Tryz.func71, Tryz.ntmps71
  go_wp2
  go_ret
  exact ⟨rfl, Below.refl _ _⟩
end Go.Proofs.YtipbhdhiklmieaaGreatDoor.P9
namespace Go.Proofs.YtipbhdhiklmieaaGreatDoor.P10
open Go.RowKit
def run (p : Int -> Bool) : List Int -> Nat
 | [] => 0
 | x :: t => if p x then run p t + 1 else 0
theorem run_le (p : Int -> Bool) (l : List Int) : run p l <= l.length := by
 induction l with
 | nil => simp [run]
 | cons x t ih => unfold run; split <;> simp <;> omega
theorem iAt_cons_succ (x : Int) (t : List Int) (k : Nat) : iAt (x :: t) (k + 1) = iAt t k := by simp [iAt]
theorem run_eq (p : Int -> Bool) (l : List Int) : ∀ k, k <= l.length -> (∀ j, j < k -> p (iAt l j) = true) -> (k < l.length -> p (iAt l k) = false) -> run p l = k := by
 induction l with
 | nil => intro k hk _ _; simp at hk; simp [run, hk]
 | cons x t ih =>
  intro k hk h1 h2
  cases k with
  | zero => have := h2 (by simp); simp [iAt] at this; simp [run, this]
  | succ k =>
   have h0 := h1 0 (by omega)
   simp [iAt] at h0
   have := ih k (by simp at hk; omega) (fun j hj => by have := h1 (j + 1) (by omega); rwa [iAt_cons_succ] at this) (fun hk2 => by have := h2 (by simp; omega); rwa [iAt_cons_succ] at this)
   simp [run, h0, this]
theorem behind_any (p : Option Addr) (l : List Int) (cap : Nat) (w : World) (hl : l.length <= cap) (hm : (cap : Int) <= 9223372036854775807) (h : Is w p l) :
  Calls Tryz.prog 177 #[.slice p l.length cap] w fun e w' => (∃ q c, e = .returned (.slice q (l.length - run blankP l) c) /\ Is w q (l.drop (run blankP l))) /\ w' = w := by
 obtain ⟨r, hR⟩ : ∃ r, run blankP l = r := ⟨_, rfl⟩
 rw [hR]
 have HR : Hid (run blankP l = r) := hR
 clear hR
 go_enter Tryz.func177, Tryz.ntmps177
 go_wp2
 go_loop [7] (fun i => ∃ (k : Nat), k <= l.length /\ i = .int .i64 k /\ Hid (∀ j, j < k -> blankP (iAt l j) = true)) (fun i => l.length - (intOf i).toNat)
 case atStart => exact ⟨0, Nat.zero_le _, rfl, fun j hj => by omega⟩
 case round =>
  obtain ⟨k, hk, rfl, HE⟩ := hrel
  by_cases hlt : k < l.length
  ·have hI := h
   obtain ⟨b, o, rfl, hb⟩ := h.at (by omega)
   have c0 := hb k hlt
   have HD : Hid (Is w (some ⟨b, o + k, none⟩) (l.drop k)) := hI.drop k
   have hck : ¬ cap = k := by omega
   clear hb h hI
   cases hx : blankP (iAt l k)
   ·have hr : r = k := HR.out.symm.trans (run_eq blankP l k hk HE.out (fun _ => hx))
    generalize iAt l k = x at c0 hx
    subst hr
    go_wp2_with (first | (go_at_call 55; refine (blank_any _ _).mono ?_; rintro e w' ⟨rfl, rfl⟩))
    go_ret
    exact ⟨⟨_, _, rfl, HD.out⟩, rfl⟩
   ·have HE' : Hid (∀ j, j < k + 1 -> blankP (iAt l j) = true) := by
     intro j hj
     by_cases e : j = k
     ·rw [e, hx]
     ·exact HE.out j (by omega)
    generalize iAt l k = x at c0 hx
    clear HD
    go_wp2_with (first | (go_at_call 55; refine (blank_any _ _).mono ?_; rintro e w' ⟨rfl, rfl⟩))
    go_round
    case rel => exact ⟨k + 1, by omega, by go_num, HE'⟩
    case measure => simp [intOf]; omega
  ·obtain rfl : k = l.length := by omega
   have hr : r = l.length := HR.out.symm.trans (run_eq blankP l _ hk HE.out (fun h => by omega))
   subst hr
   go_wp2
   go_ret
   exact ⟨⟨none, ⟨0, rfl⟩, .inl rfl⟩, rfl⟩
def mk3 (l : List Int) (c : Int) : Bool := decide (3 <= l.length /\ iAt l 0 = c /\ iAt l 1 = c /\ iAt l 2 = c) && (decide (l.length = 3) || blankP (iAt l 3))
theorem has_any (p : Option Addr) (l : List Int) (c : Int) (cap : Nat) (w : World) (hm : (l.length : Int) <= 9223372036854775807) (h : Is w p l) :
  Calls Tryz.prog 171 #[.slice p l.length cap, .int .i64 c] w fun e w' => e = .returned (.bool (mk3 l c)) /\ w' = w := by
 by_cases h3 : 3 <= l.length
 ·have h3' : ¬ (l.length : Int) < 3 := by omega
  obtain ⟨b, o, rfl, hc⟩ := h.at (by omega)
  have c0 := hc 0 (by omega)
  have c1 := hc 1 (by omega)
  have c2 := hc 2 (by omega)
  rw [Nat.add_zero] at c0
  have hr : mk3 l c = (decide (iAt l 0 = c /\ iAt l 1 = c /\ iAt l 2 = c) && (decide (l.length = 3) || blankP (iAt l 3))) := by
   unfold mk3
   simp [h3]
  rw [hr]
  by_cases h4 : 3 < l.length
  ·have c3 := hc 3 h4
   generalize iAt l 0 = x0 at c0 |-
   generalize iAt l 1 = x1 at c1 |-
   generalize iAt l 2 = x2 at c2 |-
   generalize iAt l 3 = x3 at c3 |-
   have h5 : ¬ l.length = 3 := by omega
   rw [decide_eq_false h5, Bool.false_or]
   clear hr h hc
   obtain ⟨r, hr⟩ : ∃ r, (decide (x0 = c /\ x1 = c /\ x2 = c) && blankP x3) = r := ⟨_, rfl⟩
   rw [hr]
   have HR : Hid ((decide (x0 = c /\ x1 = c /\ x2 = c) && blankP x3) = r) := hr
   clear hr
   go_enter Tryz.func171, Tryz.ntmps171
   go_wp2_with (first | (go_at_call 55; refine (blank_any _ _).mono ?_; rintro e w' ⟨rfl, rfl⟩))
   all_goals
    go_ret
    refine ⟨ret_bool ?_, rfl⟩
    rw [<- HR.out]
    simp_all
  ·have h5 : l.length = 3 := by omega
   generalize iAt l 0 = x0 at c0 |-
   generalize iAt l 1 = x1 at c1 |-
   generalize iAt l 2 = x2 at c2 |-
   rw [h5]
   clear hr h hc
   obtain ⟨r, hr⟩ : ∃ r, (decide (x0 = c /\ x1 = c /\ x2 = c)) = r := ⟨_, rfl⟩
   rw [hr]
   simp only [decide_true, Bool.true_or, Bool.and_true]
   have HR : Hid ((decide (x0 = c /\ x1 = c /\ x2 = c)) = r) := hr
   clear hr
   go_enter Tryz.func171, Tryz.ntmps171
   go_wp2_with (first | (go_at_call 55; refine (blank_any _ _).mono ?_; rintro e w' ⟨rfl, rfl⟩))
   all_goals
    go_ret
    refine ⟨ret_bool ?_, rfl⟩
    rw [<- HR.out]
    simp_all
 ·rw [show mk3 l c = false from by unfold mk3; simp [h3]]
  clear h
  go_enter Tryz.func171, Tryz.ntmps171
  go_wp2
  go_ret
  exact ⟨rfl, rfl⟩
def markP (i : Int) (l : List Int) : Int := if i ≠ 0 then 0 else if mk3 l 45 then 1 else if mk3 l 46 then 2 else 0
theorem marker_any (i : Int) (p : Option Addr) (l : List Int) (cap : Nat) (w : World) (hm : (l.length : Int) <= 9223372036854775807) (h : Is w p l) :
  Calls Tryz.prog 141 #[.agg #[.int .i64 i, .slice p l.length cap]] w fun e w' => e = .returned (.int .i64 (markP i l)) /\ Below w.heap.size w w' := by
 have h' := h.alloc (.cells #[.int .i64 i, .slice p l.length cap] 44)
 clear h
 have HB : Hid (Below w.heap.size w (w.alloc (.cells #[.int .i64 i, .slice p l.length cap] 44))) := (Below.refl _ w).alloc (Nat.le_refl _) _
 by_cases hi : i = 0
 ·subst hi
  cases h1 : mk3 l 45
  ·cases h2 : mk3 l 46
   ·rw [show markP 0 l = 0 from by unfold markP; simp [h1, h2]]
    go_enter Tryz.func141, Tryz.ntmps141
    go_wp2_with (first | (go_at_call 171; refine (has_any _ _ _ _ _ hm h').mono ?_; rintro e w' ⟨rfl, rfl⟩))
    go_ret
    exact ⟨rfl, HB.out⟩
   ·rw [show markP 0 l = 2 from by unfold markP; simp [h1, h2]]
    go_enter Tryz.func141, Tryz.ntmps141
    go_wp2_with (first | (go_at_call 171; refine (has_any _ _ _ _ _ hm h').mono ?_; rintro e w' ⟨rfl, rfl⟩))
    go_ret
    exact ⟨rfl, HB.out⟩
  ·rw [show markP 0 l = 1 from by unfold markP; simp [h1]]
   go_enter Tryz.func141, Tryz.ntmps141
   go_wp2_with (first | (go_at_call 171; refine (has_any _ _ _ _ _ hm h').mono ?_; rintro e w' ⟨rfl, rfl⟩))
   go_ret
   exact ⟨rfl, HB.out⟩
 ·rw [show markP i l = 0 from by unfold markP; simp [hi]]
  have t : (i != 0) = true := by simpa using hi
  clear h'
  go_enter Tryz.func141, Tryz.ntmps141
  go_wp2
  go_ret
  exact ⟨rfl, HB.out⟩
def emptyP (l : List Int) : Bool := decide (run blankP l = l.length)
def bareP (l : List Int) : Bool := emptyP l || decide (iAt l (run blankP l) = 35)
theorem iAt_drop (l : List Int) (k : Nat) : iAt (l.drop k) 0 = iAt l k := by simp [iAt]
theorem empty_len (l : List Int) : emptyP l = ((l.length - run blankP l : Nat) == 0) := by
 have := run_le blankP l
 unfold emptyP
 rw [Bool.eq_iff_iff]
 simp
 omega
theorem bare_any (i : Int) (p : Option Addr) (l : List Int) (cap : Nat) (w : World) (hl : l.length <= cap) (hm : (cap : Int) <= 9223372036854775807) (h : Is w p l) :
  Calls Tryz.prog 157 #[.agg #[.int .i64 i, .slice p l.length cap]] w fun e w' => e = .returned (.bool (bareP l)) /\ Below w.heap.size w w' := by
 have h' := h.alloc (.cells #[.int .i64 i, .slice p l.length cap] 44)
 clear h
 have HB : Hid (Below w.heap.size w (w.alloc (.cells #[.int .i64 i, .slice p l.length cap] 44))) := (Below.refl _ w).alloc (Nat.le_refl _) _
 have hle := run_le blankP l
 by_cases he : run blankP l = l.length
 ·rw [show bareP l = true from by unfold bareP emptyP; simp [he]]
  go_enter Tryz.func157, Tryz.ntmps157
  go_wp2_with (first | (go_at_call 177; refine (behind_any _ _ _ _ hl hm h').mono ?_; rw [he, Nat.sub_self]; rintro e w' ⟨⟨q, c, rfl, -⟩, rfl⟩))
  go_ret
  exact ⟨rfl, HB.out⟩
 ·have HV : Hid (bareP l = decide (iAt l (run blankP l) = 35)) := by show bareP l = _; unfold bareP emptyP; simp [he]
  have hx := iAt_drop l (run blankP l)
  obtain ⟨r, hR⟩ : ∃ r, run blankP l = r := ⟨_, rfl⟩
  have B := behind_any p l cap (w.alloc (.cells #[.int .i64 i, .slice p l.length cap] 44)) hl hm h'
  rw [hR] at HV hx B he hle
  rw [HV.out]
  clear hR HV
  have hr : ¬ ((l.length - r : Nat) : Int) = 0 := by omega
  have hr0 : (0 : Int) < ((l.length - r : Nat) : Int) := by omega
  have t : ((((l.length - r : Nat) : Int)) == 0) = false := by simpa using hr
  obtain ⟨v, hv⟩ : ∃ v, decide (iAt l r = 35) = v := ⟨_, rfl⟩
  rw [hv]
  rw [<- hx] at hv
  have HV : Hid (decide (iAt (l.drop r) 0 = 35) = v) := hv
  clear hv hx
  go_enter Tryz.func157, Tryz.ntmps157
  go_wp2_with fail
  refine B.mono ?_
  rintro e w' ⟨⟨q, c, rfl, hq⟩, rfl⟩
  obtain ⟨b, o, rfl, hc⟩ := hq.at (by simp; omega)
  have c0 := hc 0 (by simp; omega)
  rw [Nat.add_zero] at c0
  clear hc hq B h'
  generalize iAt (l.drop r) 0 = y at c0 HV
  go_wp2
  go_ret
  refine ⟨ret_bool ?_, HB.out⟩
  rw [<- HV.out, Bool.eq_iff_iff]
  simp
end Go.Proofs.YtipbhdhiklmieaaGreatDoor.P10
namespace Go.Proofs.YtipbhdhiklmieaaGreatDoor.P8
open Go.RowKit Go.Shelf
theorem pushL {w : World} {base : Nat} {v : Value} {xs u : List Int} {q : Option Addr} (c : Nat) (h : Owns w base v xs) (hb : base <= w.heap.size) (hn : xs.length + u.length <= 8796093022208) (hI : Is w q u) :
  ∃ v' w1, (Builtin.append_ #[41, 41] 41 #[v, .slice q u.length c]).run Tryz.prog w = .ok v' w1 /\ Owns w1 base v' (xs ++ u) /\ w.grownBy w1 v.ownBlock := by
 obtain ⟨i0, hi, hz0, hz1, hz2⟩ := info_parts Tryz.info3
 cases q with
 | none =>
  have e : u = [] := by
   rcases hI with e | ⟨b, o, e, -⟩
   ·exact e
   ·cases e
  subst e
  refine ⟨v, w, ?_, by rw [List.append_nil]; exact h, ⟨rfl, rfl, rfl, Nat.le_refl _, fun _ _ _ => rfl⟩⟩
  rcases h.2 with ⟨rfl, -⟩ | ⟨g, cap, cur, rfl, -, hg, hle, -⟩
  ·simp [Builtin.append_, run_underlying Tryz.underlying41, sizeOf, typeInfo, hi, Builtin.lenOf, Builtin.firstCells, loadCells, loadCellsFrom]
  ·simp [Builtin.append_, run_underlying Tryz.underlying41, sizeOf, typeInfo, hi, Builtin.lenOf, Builtin.firstCells, loadCells, loadCellsFrom, hle, storeCells]
 | some a =>
  have hnews : ∀ j z, (u.map (Value.int .i64))[j]? = some z -> w.cell? (a.add j) = some z := by
   intro j z hz
   rw [List.getElem?_map] at hz
   cases hj : u[j]? with
   | none => rw [hj] at hz; cases hz
   | some y =>
    rw [hj] at hz
    have hjl : j < u.length := (List.getElem?_eq_some_iff.1 hj).1
    obtain ⟨b, o, e, hc⟩ := hI.at (by omega)
    cases e
    rw [add_plain, hc j hjl]
    simp [iAt, hj] at hz |-
    exact hz
  obtain ⟨v', w', hr, ho, hg, -⟩ := run_append_own (P := Tryz.prog) w base 41 41 3 i0 (.int .i64 0) 1 8 Tryz.underlying41 hi hz0 hz1 hz2 rfl (by decide) v xs.length (xs.map (.int .i64)) h
   a u.length c (u.map (.int .i64)) (by simp) hnews (by simp [Value.oneCell']) (by unfold maxLen; omega) (by omega) hb
  refine ⟨v', w', hr, ?_, hg⟩
  unfold Owns
  rw [List.map_append, List.length_append]
  exact ho
theorem owns_below {w w1 : World} {base : Nat} {v : Value} {xs : List Int} (h : Owns w base v xs) (hg : w.grownBy w1 v.ownBlock) {n0 : Nat} (hn : n0 <= base) (hb : base <= w.heap.size) : Below n0 w w1 :=
 (Below.refl n0 w).grown hg (by omega) (fun k e => Nat.le_trans hn (owns_cells h e).1)
theorem push1w {w : World} {base : Nat} {v : Value} {xs : List Int} (h : Owns w base v xs) (hb : base <= w.heap.size) (hn : xs.length + 1 <= 8796093022208) (x : Int) :
  ∃ v' w1, (Builtin.append_ #[41, 41] 41 #[v, .slice (some ⟨w.heap.size, 0, none⟩) 1 1]).run Tryz.prog (w.alloc (.cells #[.int .i64 x] 3)) = .ok v' w1 /\ Owns w1 base v' (xs ++ [x]) /\ Below base w w1 := by
 obtain ⟨g, cap, w1, h1, h2, h3, -⟩ := push1 h hb hn x
 refine ⟨_, w1, h1, ?_, ?_⟩
 ·exact h2
 ·exact ((Below.refl base w).alloc hb _).trans (owns_below (h.alloc _) h3 (Nat.le_refl _) (by simp; omega))
theorem row_at {R : List Row} {i : Nat} (h : i < R.length) : ∃ r, R[i]? = some r := ⟨_, List.getElem?_eq_getElem h⟩
def sepR (k e : Nat) : List Int := if 0 < k /\ e = 0 then [32] else List.replicate e 10
def flS (R : List Row) : Nat -> List Int × Nat
 | 0 => ([], 0)
 | k + 1 => if tellF R k then ((flS R k).1 ++ sepR k (flS R k).2 ++ trimG R k, 0) else ((flS R k).1, (flS R k).2 + 1)
theorem flS_join (R : List Row) : ∀ k, (joinT sepFl (trimG R) (told (tellF R) k)).1 = (flS R k).1 /\ (joinT sepFl (trimG R) (told (tellF R) k)).2 = (k : Int) - 1 - (flS R k).2 /\ (flS R k).2 + (if k = 0 then 0 else 1) <= k
 | 0 => ⟨rfl, rfl, by simp [flS]⟩
 | k + 1 => by
  obtain ⟨h1, h2, h3⟩ := flS_join R k
  cases ht : tellF R k with
  | true =>
   rw [told_yes ht, joinT_snoc, h1, h2]
   rw [show flS R (k + 1) = ((flS R k).1 ++ sepR k (flS R k).2 ++ trimG R k, 0) from by rw [flS, ht]; rfl]
   refine ⟨?_, by dsimp only; omega, by simp⟩
   dsimp only
   have hs : sepFl ((k : Int) - 1 - (flS R k).2) k = sepR k (flS R k).2 := by
    generalize (flS R k).2 = e at h3
    unfold sepFl sepR sepI
    by_cases hk : k = 0
    ·subst hk
     simp at h3
     subst h3
     rfl
    ·rw [if_neg hk] at h3
     rw [if_neg (by omega), show (k : Int) - ((k : Int) - 1 - e) - 1 = e by omega]
     by_cases he : e = 0
     ·subst he; rw [if_pos (by rfl), if_pos ⟨by omega, rfl⟩]
     ·rw [if_neg (by omega), if_neg (by omega), Int.toNat_natCast]
   rw [hs]
  | false =>
   have hk : k ≠ 0 := by rintro rfl; simp [tellF] at ht
   rw [told_no ht, h1, h2]
   rw [show flS R (k + 1) = ((flS R k).1, (flS R k).2 + 1) from by rw [flS, ht]; rfl]
   rw [if_neg hk] at h3
   refine ⟨rfl, by dsimp only; omega, ?_⟩
   dsimp only
   rw [if_neg (by omega)]
   omega
theorem flowT_flS (R : List Row) : flowT R = (flS R R.length).1 := (flS_join R R.length).1
theorem flS_len (R : List Row) (hS : Sized R) (k : Nat) (hk : k <= R.length) : (flS R k).1.length <= 2199025352704 := by
 rw [<- (flS_join R k).1]
 have h1 := joinT_len sepFl (trimG R) 1048576 R.length (fun i => Nat.le_trans (trimF_le _ _ _) (hS.2 i)) (fun b i hb hi => sepFl_len _ b i hb hi) (told (tellF R) k) (fun i hi => by
  unfold told at hi
  have := List.mem_range.1 (List.mem_filter.1 hi).1
  omega)
 have h2 := told_len (tellF R) k
 have h3 := hS.1
 have : (told (tellF R) k).length * (1048576 + R.length + 1) <= 1048576 * 2097153 := Nat.mul_le_mul (by omega) (by omega)
 omega
end Go.Proofs.YtipbhdhiklmieaaGreatDoor.P8
namespace Go.Proofs.YtipbhdhiklmieaaGreatDoor.P8
open Go.RowKit Go.Shelf
attribute [local go_sem] Oper.semAt_some
abbrev Sg := Nat × Int × Bool
def sgP : Nat -> List Int -> List Sg
 | _, [] => []
 | p, [c] => [(p, c, false)]
 | p, c :: d :: r => if c = 39 /\ d = 39 then (p, 39, true) :: sgP (p + 2) r else (p, c, false) :: sgP (p + 1) (d :: r)
theorem sg_end {t : List Int} {k : Nat} (h : t.length <= k) : sgP k (t.drop k) = [] := by rw [List.drop_eq_nil_of_le h, sgP]
theorem sg_two {t : List Int} {k : Nat} (h : k + 1 < t.length) (h1 : iAt t k = 39) (h2 : iAt t (k + 1) = 39) : sgP k (t.drop k) = (k, 39, true) :: sgP (k + 2) (t.drop (k + 2)) := by
 rw [drop_at (j := k) (by omega), drop_at (j := k + 1) h, h1, h2, sgP, if_pos ⟨rfl, rfl⟩]
theorem sg_last {t : List Int} {k : Nat} (h : k < t.length) (h1 : ¬ k + 1 < t.length) : sgP k (t.drop k) = (k, iAt t k, false) :: sgP (k + 1) (t.drop (k + 1)) := by
 rw [drop_at h, List.drop_eq_nil_of_le (by omega), sgP, sgP]
theorem sg_one {t : List Int} {k : Nat} (h : k + 1 < t.length) (hn : ¬ (iAt t k = 39 /\ iAt t (k + 1) = 39)) : sgP k (t.drop k) = (k, iAt t k, false) :: sgP (k + 1) (t.drop (k + 1)) := by
 rw [drop_at (j := k) (by omega), drop_at (j := k + 1) h, sgP, if_neg hn]
theorem sg_len : ∀ (t : List Int) (p : Nat), (sgP p t).length <= t.length
 | [], _ => by simp [sgP]
 | [c], _ => by simp [sgP]
 | c :: d :: r, p => by
  rw [sgP]
  split
  ·have := sg_len r (p + 2); simp; omega
  ·have := sg_len (d :: r) (p + 1); simp at this |-; omega
def encS (x : Sg) : Array Value := #[.int .i64 (x.1 : Nat), .agg #[.int .i64 x.2.1, .bool x.2.2]]
theorem Kq.refl (X : Nat -> Prop) (A : World) : Kq X A A := ⟨Nat.le_refl _, fun _ _ => rfl⟩
theorem signs_in (n : Nat) (p : Option Addr) (len cap : Nat) (w : World) :
  CallsIn Fence.wide n Tryz.prog 150 #[.slice p len cap] w fun e w' => e = .returned (.func (.func 176) #[] #[.pointer (some ⟨w.heap.size, 0, none⟩)]) /\ w' = w.alloc (.cells #[.slice p len cap] 41) := by
 refine callsIn_of_wp Tryz.func150 rfl trivial ?_ rfl
 simp only [Tryz.ntmps150, frm, Nat.reduceAdd, Nat.reduceSub]
 gi_wp2
 go_ret
 exact ⟨rfl, rfl⟩
end Go.Proofs.YtipbhdhiklmieaaGreatDoor.P8
