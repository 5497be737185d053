/- The document's own Lines: which lines any code points are. -/
import Derived.Deep.AppendSrc
import Derived.Deep.Heap
import Derived.Deep.MidRow
import Derived.Laws.MakeOwn
import Derived.Test.YtipbhdhiklmieaaGreatDoorZBA
set_option linter.all false
set_option maxRecDepth 100000
set_option maxHeartbeats 4000000
namespace Go.Proofs.YtipbhdhiklmieaaGreatDoor.P3
open Go.RowKit Go.Shelf
open P10 (run run_le run_eq iAt_cons_succ)
theorem Tryz.info44 : (Tryz.prog.info? 44).map (fun i => (i.zero, i.size, i.bytes)) = some (some (.agg #[.int .i64 0, .slice none 0 0]), 2, 32) := by kernel_rfl
def endP (c : Int) : Bool := decide (c = 10 \/ c = 13)
def badP (c : Int) : Bool := decide (c = 65279) || !printP c
def endSz (l : List Int) : Nat := if 1 < l.length /\ iAt l 0 = 13 /\ iAt l 1 = 10 then 2 else 1
def upTo (p : Int -> Bool) (l : List Int) : Nat := run (fun c => !p c) l
theorem append_copy (w : World) (q : Option Addr) (l : List Int) (c : Nat) (h : Is w q l) (hl : l.length <= 17592186044416) :
  ∃ v w', (Builtin.append_ #[41, 41] 41 #[.slice none 0 0, .slice q l.length c]).run Tryz.prog w = .ok v w' /\ w'.ownsRow w.heap.size 3 1 v l.length (l.map (.int .i64)) /\ Below w.heap.size w w' := by
 obtain ⟨i0, hi, hz0, hz1, hz2⟩ := info_parts Tryz.info3
 cases q with
 | none =>
  have e : l = [] := by
   rcases h with e | ⟨b, o, e, -⟩
   ·exact e
   ·cases e
  subst e
  refine ⟨.slice none 0 0, w, ?_, World.ownsRow_nil w _ 3 1, Below.refl _ _⟩
  simp [Builtin.append_, run_underlying Tryz.underlying41, sizeOf, typeInfo, hi, Builtin.lenOf, Builtin.firstCells, loadCells, loadCellsFrom]
 | some a =>
  have hnews : ∀ j u, (l.map (Value.int .i64))[j]? = some u -> w.cell? (a.add j) = some u := by
   intro j u hu
   rw [List.getElem?_map] at hu
   cases hj : l[j]? with
   | none => rw [hj] at hu; cases hu
   | some z =>
    rw [hj] at hu
    have hjl : j < l.length := (List.getElem?_eq_some_iff.1 hj).1
    obtain ⟨b, o, e, hc⟩ := h.at (by omega)
    cases e
    rw [add_plain, hc j hjl]
    simp [iAt, hj] at hu |-
    exact hu
  obtain ⟨v, w', hr, ho, hg, -⟩ := run_append_own (P := Tryz.prog) w w.heap.size 41 41 3 i0 (.int .i64 0) 1 8 Tryz.underlying41 hi hz0 hz1 hz2 rfl (by decide) (.slice none 0 0) 0 [] (World.ownsRow_nil w _ 3 1)
   a l.length c (l.map (.int .i64)) (by simp) hnews (by simp [Value.oneCell']) (by unfold maxLen; omega) (by omega) (Nat.le_refl _)
  refine ⟨v, w', hr, by simpa using ho, ?_⟩
  exact (Below.refl _ w).grown hg (Nat.le_refl _) (fun j e => by cases e)
def Copied (w : World) (l : List Int) (w' : World) (v : Value) : Prop := w'.ownsRow w.heap.size 3 1 v l.length (l.map (.int .i64)) /\ Below w.heap.size w w'
theorem copied_box {w w1 : World} {o : Obj} {l : List Int} {v v0 v1 : Value} (h : w1.ownsRow (w.heap.size + 1) 3 1 v l.length (l.map (.int .i64))) (hB : Below (w.heap.size + 1) (w.alloc o) w1) :
  Copied w l ((w1.setCell ⟨w.heap.size, 0, none⟩ v0).setCell ⟨w.heap.size, 1, none⟩ v1) v := by
 have hk : ∀ k, k ≠ w.heap.size -> ((w1.setCell ⟨w.heap.size, 0, none⟩ v0).setCell ⟨w.heap.size, 1, none⟩ v1).heap[k]? = w1.heap[k]? := by
  intro k hk
  rw [Deep.blk_setCell_other _ _ _ _ hk, Deep.blk_setCell_other _ _ _ _ hk]
 have hB' : Below w.heap.size w w1 := ((Below.refl _ w).alloc (Nat.le_refl _) o).trans (hB.mono (by omega))
 refine ⟨ownsRow_mono (base := w.heap.size + 1) ?_ (by omega), (hB'.setCell (p := ⟨w.heap.size, 0, none⟩) (Nat.le_refl _) _).setCell (p := ⟨w.heap.size, 1, none⟩) (Nat.le_refl _) _⟩
 obtain ⟨h1, h2 | ⟨g, cap, cur, hv, hg, hc, rest⟩⟩ := h
 ·exact ⟨h1, .inl h2⟩
 ·exact ⟨h1, .inr ⟨g, cap, cur, hv, hg, (hk g (by omega)).trans hc, rest⟩⟩
def is32 (c : Int) : Bool := decide (c = 32)
def inP (l : List Int) : Nat := run is32 l
theorem run_stop (p : Int -> Bool) (l : List Int) (h : run p l < l.length) : p (iAt l (run p l)) = false := by
 induction l with
 | nil => simp at h
 | cons x t ih =>
  cases hx : p x
  ·rw [show run p (x :: t) = 0 from by simp [run, hx]]
   simpa [iAt] using hx
  ·rw [show run p (x :: t) = run p t + 1 from by simp [run, hx]] at h |-
   rw [iAt_cons_succ]
   exact ih (by simp at h; omega)
theorem line_any (p : Option Addr) (l : List Int) (cap : Nat) (w : World) (hl : l.length <= cap) (hm : l.length <= 17592186044416) (h : Is w p l) :
  Calls Tryz.prog 53 #[.slice p l.length cap] w fun e w' => ∃ v, e = .returned (.agg #[.int .i64 (inP l), v]) /\ Copied w (l.drop (inP l)) w' v := by
 obtain ⟨r, hR⟩ : ∃ r, inP l = r := ⟨_, rfl⟩
 have hrl : r <= l.length := by rw [<- hR]; exact run_le _ _
 rw [hR]
 have HR : Hid (inP l = r) := hR
 clear hR
 have h1 := h.alloc (.cells #[.int .i64 0, .slice none 0 0] 44)
 have S := slice_from p l.length cap r hrl hl
 obtain ⟨v, w1, hrun, HO, HB⟩ : ∃ v w1, (Builtin.append_ #[41, 41] 41 #[.slice none 0 0, .slice (if cap = r then p else p.map (·.add r)) (l.length - r) (cap - r)]).run Tryz.prog (w.alloc (.cells #[.int .i64 0, .slice none 0 0] 44)) = .ok v w1 /\ Hid (w1.ownsRow (w.heap.size + 1) 3 1 v (l.drop r).length ((l.drop r).map (.int .i64))) /\ Hid (Below (w.heap.size + 1) (w.alloc (.cells #[.int .i64 0, .slice none 0 0] 44)) w1) := by
  have := append_copy (w.alloc (.cells #[.int .i64 0, .slice none 0 0] 44)) (if cap = r then p else p.map (·.add r)) (l.drop r) (cap - r) (h1.from cap r hl) (by simp; omega)
  rw [List.length_drop, World.size_alloc] at this
  obtain ⟨v, w', a1, a2, a3⟩ := this
  exact ⟨v, w', a1, by rw [List.length_drop]; exact a2, a3⟩
 have hbk : w1.heap[w.heap.size]? = some (.cells #[.int .i64 0, .slice none 0 0] 44) := (HB.out.block w.heap.size (by omega)).trans (heap_alloc_new w _)
 have cb0 : w1.cell? ⟨w.heap.size, 0, none⟩ = some (.int .i64 0) := by simp [World.cell?, hbk]
 have cb1 : w1.cell? ⟨w.heap.size, 1, none⟩ = some (.slice none 0 0) := by simp [World.cell?, hbk]
 have fb0 : w1.frozen? ⟨w.heap.size, 0, none⟩ = false := by simp [World.frozen?, hbk]
 have fb1 : w1.frozen? ⟨w.heap.size, 1, none⟩ = false := by simp [World.frozen?, hbk]
 clear h hbk
 obtain ⟨va, vk, vc, rfl⟩ := ownsRow_form HO.out
 generalize (if cap = r then p else p.map (·.add r)) = q at S hrun
 generalize l.drop r = d at HO |-
 go_enter Tryz.func53, Tryz.ntmps53
 go_wp2
 go_loop [3] (fun i => ∃ (k : Nat), k <= r /\ i = .int .i64 k /\ Hid (∀ j, j < k -> is32 (iAt l j) = true)) (fun i => l.length - (intOf i).toNat)
 case atStart => exact ⟨0, Nat.zero_le _, rfl, fun j hj => by omega⟩
 case round =>
  obtain ⟨k, hk, rfl, HE⟩ := hrel
  by_cases hlt : k < l.length
  ·obtain ⟨b, o, rfl, hb⟩ := h1.at (by omega)
   have c0 := hb k hlt
   clear hb h1
   by_cases hx : iAt l k = 32
   ·have HE' : Hid (∀ j, j < k + 1 -> is32 (iAt l j) = true) := by
     intro j hj
     by_cases e : j = k
     ·rw [e, hx]; rfl
     ·exact HE.out j (by omega)
    have hkr : k < r := by
     by_cases e : k = r
     ·exfalso
      have hne := run_stop is32 l (by rw [show run is32 l = r from HR.out]; omega)
      rw [show run is32 l = r from HR.out, <- e, hx] at hne
      exact absurd hne (by decide)
     ·omega
    rw [hx] at c0
    clear S hrun
    go_wp2
    go_round
    case rel => exact ⟨k + 1, by omega, by go_num, HE'⟩
    case measure => simp [intOf]; omega
   ·have hr : r = k := by
     have : run is32 l = k := run_eq _ l k (by omega) HE.out (fun _ => by unfold is32; simp [hx])
     exact HR.out.symm.trans this
    generalize iAt l k = x at c0 hx
    have t : (x == 32) = false := by simpa using hx
    subst hr
    go_wp2_with (at_builtin; refine wpList_append_run rfl _ _ 41 rfl rfl rfl hrun ?_)
    exact bodyPost_ret (v := .agg #[.int .i64 r, .slice va vk vc]) (by simp [results, Tryz.results53, go_sem, cb0, cb1]) rfl ⟨_, rfl, copied_box HO.out HB.out⟩
  ·obtain rfl : k = l.length := by omega
   have hr : r = l.length := by omega
   subst hr
   simp only [Nat.sub_self] at S hrun
   go_wp2_with (at_builtin; refine wpList_append_run rfl _ _ 41 rfl rfl rfl hrun ?_)
   exact bodyPost_ret (v := .agg #[.int .i64 l.length, .slice va vk vc]) (by simp [results, Tryz.results53, go_sem, cb0, cb1]) rfl ⟨_, rfl, copied_box HO.out HB.out⟩
theorem endSz_pos (l : List Int) : 1 <= endSz l /\ endSz l <= 2 := by unfold endSz; split <;> omega
theorem endSz_le (l : List Int) (h : 0 < l.length) : endSz l <= l.length := by unfold endSz; split <;> omega
def cutsF (l : List Int) : Nat -> Nat -> List (Nat × Nat)
 | 0, _ => []
 | f + 1, k => if k < l.length then (k, upTo endP (l.drop k)) :: (if k + upTo endP (l.drop k) < l.length then cutsF l f (k + upTo endP (l.drop k) + endSz (l.drop (k + upTo endP (l.drop k)))) else []) else []
def cutsAt (l : List Int) (k : Nat) : List (Nat × Nat) := cutsF l (l.length - k) k
theorem cutsF_same (l : List Int) : ∀ f g k, l.length - k <= f -> l.length - k <= g -> cutsF l f k = cutsF l g k
 | 0, 0, _, _, _ => rfl
 | 0, g + 1, k, h, _ => by rw [cutsF, cutsF, if_neg (by omega)]
 | f + 1, 0, k, _, h => by rw [cutsF, cutsF, if_neg (by omega)]
 | f + 1, g + 1, k, h1, h2 => by
  have hz := endSz_pos (l.drop (k + upTo endP (l.drop k)))
  rw [cutsF, cutsF]
  by_cases hk : k < l.length
  ·rw [if_pos hk, if_pos hk]
   by_cases hs : k + upTo endP (l.drop k) < l.length
   ·rw [if_pos hs, if_pos hs, cutsF_same l f g _ (by omega) (by omega)]
   ·rw [if_neg hs, if_neg hs]
  ·rw [if_neg hk, if_neg hk]
theorem upTo_le (l : List Int) (k : Nat) : upTo endP (l.drop k) <= l.length - k := by
 have := run_le (fun c => !endP c) (l.drop k)
 rw [List.length_drop] at this
 exact this
theorem cuts_end {l : List Int} {k : Nat} (h : ¬ k < l.length) : cutsAt l k = [] := by
 unfold cutsAt
 rw [show l.length - k = 0 by omega, cutsF]
theorem cuts_last {l : List Int} {k : Nat} (h : k < l.length) (hs : ¬ k + upTo endP (l.drop k) < l.length) : cutsAt l k = [(k, l.length - k)] := by
 have := upTo_le l k
 unfold cutsAt
 obtain ⟨m, hm⟩ : ∃ m, l.length - k = m + 1 := ⟨l.length - k - 1, by omega⟩
 rw [hm, cutsF, if_pos h, if_neg hs, show upTo endP (l.drop k) = m + 1 by omega]
theorem cuts_more {l : List Int} {k s : Nat} (h : k < l.length) (e : upTo endP (l.drop k) = s) (hs : k + s < l.length) : cutsAt l k = (k, s) :: cutsAt l (k + s + endSz (l.drop (k + s))) := by
 have hz := endSz_pos (l.drop (k + s))
 unfold cutsAt
 obtain ⟨m, hm⟩ : ∃ m, l.length - k = m + 1 := ⟨l.length - k - 1, by omega⟩
 rw [hm, cutsF, if_pos h, e, if_pos hs, cutsF_same l m _ _ (by omega) (Nat.le_refl _)]
def pieceOf (l : List Int) (x : Nat × Nat) : List Int := (l.drop x.1).take x.2
def lineP (t : List Int) : Nat × List Int := (inP t, t.drop (inP t))
def linesP (l : List Int) : List (Nat × List Int) := (cutsAt l 0).map fun x => lineP (pieceOf l x)
theorem cuts_in (l : List Int) : ∀ n k, l.length - k <= n -> ∀ x, x ∈ cutsAt l k -> x.1 < l.length /\ x.1 + x.2 <= l.length := by
 intro n
 induction n with
 | zero => intro k hk x hx; rw [cuts_end (by omega)] at hx; cases hx
 | succ n ih =>
  intro k hk x hx
  by_cases h : k < l.length
  ·by_cases hs : k + upTo endP (l.drop k) < l.length
   ·rw [cuts_more h rfl hs] at hx
    rcases List.mem_cons.1 hx with rfl | hx
    ·exact ⟨h, by simp; omega⟩
    ·exact ih _ (by have := endSz_pos (l.drop (k + upTo endP (l.drop k))); omega) x hx
   ·rw [cuts_last h hs] at hx
    simp at hx
    subst hx
    exact ⟨h, by simp; omega⟩
  ·rw [cuts_end h] at hx
   cases hx
theorem cuts_count (l : List Int) : ∀ n k, l.length - k <= n -> (cutsAt l k).length <= l.length - k := by
 intro n
 induction n with
 | zero => intro k hk; rw [cuts_end (by omega)]; simp
 | succ n ih =>
  intro k hk
  by_cases h : k < l.length
  ·by_cases hs : k + upTo endP (l.drop k) < l.length
   ·rw [cuts_more h rfl hs]
    have h1 := endSz_pos (l.drop (k + upTo endP (l.drop k)))
    have := ih (k + upTo endP (l.drop k) + endSz (l.drop (k + upTo endP (l.drop k)))) (by omega)
    simp
    omega
   ·rw [cuts_last h hs]; simp; omega
  ·rw [cuts_end h]; simp
def Rws (w : World) (base : Nat) (v : Value) (xs : List (Nat × List Int)) : Prop :=
 ∃ cells, w.ownsRow base 44 2 v xs.length cells /\ ∀ j x, xs[j]? = some x -> cells[2 * j]? = some (.int .i64 x.1) /\ ∃ t, cells[2 * j + 1]? = some t /\ w.ownsRow base 3 1 t x.2.length (x.2.map (.int .i64))
theorem Rws_nil (w : World) (base : Nat) : Rws w base (.slice none 0 0) [] := ⟨[], World.ownsRow_nil _ _ _ _, fun j x h => by simp at h⟩
theorem ownsRow_block {w w' : World} {base : Nat} {e : TypeId} {size : Nat} {v : Value} {n : Nat} {xs : List Value} (h : w.ownsRow base e size v n xs)
  (hk : ∀ g, v.ownBlock = some g -> base <= g -> (∃ cur f, w.heap[g]? = some (.cells cur e f)) -> w'.heap[g]? = w.heap[g]?) : w'.ownsRow base e size v n xs := by
 obtain ⟨h1, h2 | ⟨g, cap, cur, rfl, hg, hc, rest⟩⟩ := h
 ·exact ⟨h1, .inl h2⟩
 ·exact ⟨h1, .inr ⟨g, cap, cur, rfl, hg, (hk g rfl hg ⟨cur, _, hc⟩).trans hc, rest⟩⟩
theorem Rws.blocks {w w' : World} {base : Nat} {v : Value} {xs : List (Nat × List Int)} (h : Rws w base v xs)
  (hk : ∀ g, base <= g -> (∃ cur e f, w.heap[g]? = some (.cells cur e f)) -> w'.heap[g]? = w.heap[g]?) : Rws w' base v xs := by
 obtain ⟨cells, h1, h2⟩ := h
 refine ⟨cells, ownsRow_block h1 fun g _ hb ⟨cur, f, hc⟩ => hk g hb ⟨cur, _, f, hc⟩, fun j x hx => ?_⟩
 obtain ⟨a, t, b, c⟩ := h2 j x hx
 exact ⟨a, t, b, ownsRow_block c fun g _ hb ⟨cur, f, hc⟩ => hk g hb ⟨cur, _, f, hc⟩⟩
theorem rws_step {W W1 w1 : World} {base : Nat} {v v' u : Value} {xs : List (Nat × List Int)} {cells : List Value} {x : Nat × List Int} {tmp : Obj}
  (h1 : W.ownsRow base 44 2 v xs.length cells)
  (h2 : ∀ j x, xs[j]? = some x -> cells[2 * j]? = some (.int .i64 x.1) /\ ∃ t, cells[2 * j + 1]? = some t /\ W.ownsRow base 3 1 t x.2.length (x.2.map (.int .i64)))
  (hb : base <= W.heap.size) (hc : Copied W x.2 W1 u) (hg : (W1.alloc tmp).grownBy w1 v.ownBlock) (hown : w1.ownsRow base 44 2 v' (xs.length + 1) (cells ++ [.int .i64 x.1, u])) :
  Rws w1 base v' (xs ++ [x]) := by
 have hlen : cells.length = xs.length * 2 := h1.1
 have hvlt : ∀ g, v.ownBlock = some g -> g < W.heap.size := fun g e => (h1.lt g e).2
 have hv34 : ∀ g, v.ownBlock = some g -> ∃ cur, W.heap[g]? = some (.cells cur 44 (0, 0)) := by
  intro g e
  obtain ⟨-, ⟨rfl, -⟩ | ⟨g', cap, cur, rfl, -, hh, -⟩⟩ := h1
  ·cases e
  ·cases e; exact ⟨cur, hh⟩
 have hold : ∀ g, g < W.heap.size -> some g ≠ v.ownBlock -> w1.heap[g]? = W.heap[g]? := by
  intro g hlt hne
  have hs := hc.2.size
  rw [hg.block g (by simp; omega) hne, Below.heap_alloc W1 tmp g (by omega), hc.2.block g hlt]
 refine ⟨cells ++ [.int .i64 x.1, u], by simpa using hown, fun j y hy => ?_⟩
 by_cases hj : j < xs.length
 ·rw [List.getElem?_append_left hj] at hy
  obtain ⟨a, t, b, c⟩ := h2 j y hy
  refine ⟨by rw [List.getElem?_append_left (by omega)]; exact a, t, by rw [List.getElem?_append_left (by omega)]; exact b, ownsRow_block c fun g e _ ⟨cur, f, hh⟩ => hold g (Array.getElem?_eq_some_iff.1 hh).1 fun e' => ?_⟩
  obtain ⟨cur', h34⟩ := hv34 g e'.symm
  rw [h34] at hh
  cases hh
 ·have hj' : j = xs.length := by
   have := (List.getElem?_eq_some_iff.1 hy).1
   simp at this
   omega
  subst hj'
  simp at hy
  subst hy
  refine ⟨by rw [List.getElem?_append_right (by omega)]; simp [hlen, Nat.mul_comm], u, ?_, ?_⟩
  ·rw [List.getElem?_append_right (by omega)]
   have : 2 * xs.length + 1 - cells.length = 1 := by omega
   rw [this]; rfl
  ·refine ownsRow_mono (ownsRow_block (w := W1) hc.1 fun g e hbg ⟨cur, f, hh⟩ => ?_) hb
   have hlt1 := (Array.getElem?_eq_some_iff.1 hh).1
   rw [hg.block g (by simp; omega) (fun e' => by have := hvlt g e'.symm; omega), Below.heap_alloc W1 tmp g hlt1]
theorem append_line {W W1 : World} {base : Nat} {v u : Value} {xs : List (Nat × List Int)} {x : Nat × List Int} (h : Rws W base v xs) (hb : base <= W.heap.size) (hc : Copied W x.2 W1 u) (hn : xs.length < 1099511627776) :
  ∃ v' w1, (Builtin.append_ #[22, 22] 22 #[v, .slice (some ⟨W1.heap.size, 0, none⟩) 1 1]).run Tryz.prog (W1.alloc (.cells #[.int .i64 x.1, u] 44)) = .ok v' w1 /\ Rws w1 base v' (xs ++ [x]) /\
   (∀ g, g < W.heap.size -> some g ≠ v.ownBlock -> w1.heap[g]? = W.heap[g]?) /\ Below base W w1 /\ (∃ g k c, v' = .slice (some ⟨g, 0, none⟩) k c) /\
   (∀ g, v.ownBlock = some g -> base <= g /\ ∃ cur, W.heap[g]? = some (.cells cur 44 (0, 0))) := by
 obtain ⟨i0, hi, hz0, hz1, hz2⟩ := info_parts Tryz.info44
 obtain ⟨cells, h1, h2⟩ := h
 have hs := hc.2.size
 have h1' : (W1.alloc (.cells #[.int .i64 x.1, u] 44)).ownsRow base 44 2 v xs.length cells :=
  ownsRow_block h1 fun g _ _ ⟨cur, f, hh⟩ => by
   have hlt := (Array.getElem?_eq_some_iff.1 hh).1
   rw [Below.heap_alloc W1 _ g (by omega), hc.2.block g hlt]
 have hu : u.oneCell' = true := by
  obtain ⟨a, k, c, rfl⟩ := ownsRow_form hc.1
  rfl
 obtain ⟨v', w1, hrun, ho, hg, -⟩ := run_append_own (P := Tryz.prog) (W1.alloc (.cells #[.int .i64 x.1, u] 44)) base 22 22 44 i0 (.agg #[.int .i64 0, .slice none 0 0]) 2 32 (by kernel_rfl) hi hz0 hz1 hz2 rfl (by decide)
  v xs.length cells h1' ⟨W1.heap.size, 0, none⟩ 1 1 [.int .i64 x.1, u] rfl (fun j y hy => by
   rw [add_plain, Nat.zero_add]
   have : (W1.alloc (.cells #[.int .i64 x.1, u] 44)).heap[W1.heap.size]? = some (.cells #[.int .i64 x.1, u] 44) := World.alloc_heap_new W1 _
   generalize W1.alloc (.cells #[.int .i64 x.1, u] 44) = Z at this |-
   simp [World.cell?, this]
   simpa using hy) (by intro y hy; rcases List.mem_cons.1 hy with rfl | hy; rfl; simp at hy; rw [hy]; exact hu) (by unfold maxLen; omega) (by omega) (by simp; omega)
 have hold : ∀ g, g < W.heap.size -> some g ≠ v.ownBlock -> w1.heap[g]? = W.heap[g]? := by
  intro g hlt hne
  rw [hg.block g (by simp; omega) hne, Below.heap_alloc W1 _ g (by omega), hc.2.block g hlt]
 have hv34 : ∀ g, v.ownBlock = some g -> base <= g /\ ∃ cur, W.heap[g]? = some (.cells cur 44 (0, 0)) := by
  intro g e
  obtain ⟨-, ⟨rfl, -⟩ | ⟨g', cap, cur, rfl, hb', hh, -⟩⟩ := h1
  ·cases e
  ·cases e; exact ⟨hb', cur, hh⟩
 refine ⟨v', w1, hrun, rws_step h1 h2 hb hc hg ho, hold, ?_, (by obtain ⟨g, c, e⟩ := ownsRow_succ ho; exact ⟨g, _, c, e⟩), hv34⟩
 exact ((hc.2.mono hb).alloc (by omega) _).grown hg (by simp; omega) (fun j e => (hv34 j e).1)
theorem slice_mid (b o len cap f i : Nat) (hf : f <= i) (hi : i <= cap) (hc : f < cap) (w2 : World) :
  (Instr.slice 41 (.slice (some ⟨b, o, none⟩) len cap) (some (.int .i64 f)) (some (.int .i64 i)) none).run Tryz.prog w2 = .ok (.slice (some ⟨b, o + f, none⟩) (i - f) (cap - f)) w2 := by
 have h0 : (f : Int) <= i := by omega
 have h1 : (i : Int) <= cap := by omega
 have h2 : ¬ cap = f := by omega
 have u := Tryz.underlying41
 have z := Tryz.sizeOf3
 simp [go_sem, h0, h1, h2, add_plain]
theorem line_piece (b o cap fk n : Nat) (t : List Int) (w : World) (hn : fk + n <= t.length) (hl : t.length <= cap) (hm : t.length <= 1099511627776) (h : Is w (some ⟨b, o, none⟩) t) :
  Calls Tryz.prog 53 #[.slice (some ⟨b, o + fk, none⟩) n (cap - fk)] w fun e w' => ∃ v, e = .returned (.agg #[.int .i64 (lineP (pieceOf t (fk, n))).1, v]) /\ Copied w (lineP (pieceOf t (fk, n))).2 w' v := by
 have hlen : (pieceOf t (fk, n)).length = n := by simp [pieceOf]; omega
 have := line_any (some ⟨b, o + fk, none⟩) (pieceOf t (fk, n)) (cap - fk) w (by omega) (by omega) ((h.drop fk).take n)
 rw [hlen] at this
 exact this
theorem bad_false {c : Int} (h : badP c = false) : printP c = true /\ (c == 65279) = false := by
 unfold badP at h
 simp at h
 exact ⟨h.2, by simpa using h.1⟩
theorem bad_true {c : Int} (h : badP c = true) : printP c = false \/ (printP c = true /\ c = 65279) := by
 unfold badP at h
 cases hp : printP c
 ·exact .inl rfl
 ·rw [hp] at h; simp at h; exact .inr ⟨rfl, h⟩
theorem upTo_is {t : List Int} {f i : Nat} (hf : f <= i) (hi : i < t.length) (h : ∀ j, f <= j -> j < i -> endP (iAt t j) = false) (he : endP (iAt t i) = true) : upTo endP (t.drop f) = i - f := by
 refine run_eq _ _ _ (by rw [List.length_drop]; omega) (fun j hj => ?_) (fun _ => ?_)
 ·have := h (f + j) (by omega) (by omega)
  have e : iAt (t.drop f) j = iAt t (f + j) := by simp [iAt]
  rw [e, this]; rfl
 ·have e : iAt (t.drop f) (i - f) = iAt t i := by simp [iAt]; congr 2; omega
  rw [e, he]; rfl
theorem upTo_none {t : List Int} {f : Nat} (hf : f <= t.length) (h : ∀ j, f <= j -> j < t.length -> endP (iAt t j) = false) : upTo endP (t.drop f) = t.length - f := by
 refine run_eq _ _ _ (by rw [List.length_drop]; omega) (fun j hj => ?_) (fun h' => by rw [List.length_drop] at h'; omega)
 have := h (f + j) (by omega) (by omega)
 have e : iAt (t.drop f) j = iAt t (f + j) := by simp [iAt]
 rw [e, this]; rfl
def Mid (t : List Int) (fk ik : Nat) (pre : List (Nat × Nat)) : Prop :=
 fk <= ik /\ ik <= t.length /\ cutsAt t 0 = pre ++ cutsAt t fk /\ (∀ j, fk <= j -> j < ik -> endP (iAt t j) = false) /\ pre.length <= fk
theorem Mid.on {t : List Int} {fk ik : Nat} {pre : List (Nat × Nat)} (h : Mid t fk ik pre) (hi : ik < t.length) (he : endP (iAt t ik) = false) : Mid t fk (ik + 1) pre := by
 obtain ⟨h1, h2, h3, h4, h5⟩ := h
 refine ⟨by omega, by omega, h3, fun j a b => ?_, h5⟩
 by_cases e : j = ik
 ·rw [e]; exact he
 ·exact h4 j a (by omega)
theorem Mid.end {t : List Int} {fk ik : Nat} {pre : List (Nat × Nat)} (h : Mid t fk ik pre) (hi : ik < t.length) (he : endP (iAt t ik) = true) {s : Nat} (hs : endSz (t.drop ik) = s) : Mid t (ik + s) (ik + s) (pre ++ [(fk, ik - fk)]) := by
 obtain ⟨h1, h2, h3, h4, h5⟩ := h
 have hu := upTo_is h1 hi h4 he
 have hz := endSz_pos (t.drop ik)
 have hz2 := endSz_le (t.drop ik) (by rw [List.length_drop]; omega)
 rw [List.length_drop] at hz2
 refine ⟨Nat.le_refl _, by omega, ?_, (fun j a b => by omega), by simp; omega⟩
 rw [h3, cuts_more (by omega) hu (by omega), show fk + (ik - fk) = ik by omega, hs]
 simp
theorem Mid.last {t : List Int} {fk : Nat} {pre : List (Nat × Nat)} (h : Mid t fk t.length pre) (hf : fk < t.length) : cutsAt t 0 = pre ++ [(fk, t.length - fk)] := by
 obtain ⟨h1, h2, h3, h4, h5⟩ := h
 rw [h3, cuts_last hf (by rw [upTo_none h1 h4]; omega)]
theorem Mid.none {t : List Int} {fk : Nat} {pre : List (Nat × Nat)} (h : Mid t fk t.length pre) (hf : ¬ fk < t.length) : cutsAt t 0 = pre := by
 obtain ⟨h1, h2, h3, h4, h5⟩ := h
 rw [h3, cuts_end hf, List.append_nil]
theorem endSz_2 {t : List Int} {ik : Nat} (h : ik + 1 < t.length) (h1 : iAt t ik = 13) (h2 : iAt t (ik + 1) = 10) : endSz (t.drop ik) = 2 := by
 unfold endSz
 rw [if_pos ⟨by rw [List.length_drop]; omega, by simpa [iAt] using h1, by simpa [iAt] using h2⟩]
theorem endSz_1 {t : List Int} {ik : Nat} (h : ¬ (ik + 1 < t.length /\ iAt t ik = 13 /\ iAt t (ik + 1) = 10)) : endSz (t.drop ik) = 1 := by
 unfold endSz
 rw [if_neg]
 rintro ⟨h1, h2, h3⟩
 rw [List.length_drop] at h1
 exact h ⟨by omega, by simpa [iAt] using h2, by simpa [iAt] using h3⟩
def mapL (t : List Int) (pre : List (Nat × Nat)) : List (Nat × List Int) := pre.map fun x => lineP (pieceOf t x)
theorem mapL_snoc (t : List Int) (pre : List (Nat × Nat)) (x : Nat × Nat) : mapL t (pre ++ [x]) = mapL t pre ++ [lineP (pieceOf t x)] := by simp [mapL]
theorem mapL_len (t : List Int) (pre : List (Nat × Nat)) : (mapL t pre).length = pre.length := by simp [mapL]
theorem mapL_all (t : List Int) {pre : List (Nat × Nat)} (h : cutsAt t 0 = pre) : mapL t pre = linesP t := by unfold linesP; rw [h]; rfl
def Says (w : World) (t : List Int) (e : Ending) (w' : World) : Prop :=
 ∃ v, e = .returned (.tuple #[v, .int .i64 (if t.any badP then 4 else 0)]) /\ Below w.heap.size w w' /\ Rws w' w.heap.size v (if t.any badP then [] else linesP t)
theorem says_bad {w : World} {t : List Int} (h : t.any badP = true) {w' : World} (hb : Below w.heap.size w w') : Says w t (.returned (.tuple #[.slice none 0 0, .int .i64 4])) w' := by
 unfold Says
 rw [h]
 exact ⟨.slice none 0 0, rfl, hb, Rws_nil _ _⟩
theorem says_good {w : World} {t : List Int} (h : t.any badP = false) {w' : World} (hb : Below w.heap.size w w') {v : Value} (hr : Rws w' w.heap.size v (linesP t)) : Says w t (.returned (.tuple #[v, .int .i64 0])) w' := by
 unfold Says
 rw [h]
 exact ⟨v, rfl, hb, hr⟩
theorem reflines_says (p : Option Addr) (t : List Int) (cap : Nat) (w : World) (hl : t.length <= cap) (hc : cap <= maxLen) (hm : t.length <= 1099511627776) (hI : Is w p t) :
  Calls Tryz.prog 31 #[.slice p t.length cap] w (Says w t) := by
 have hc' : (cap : Int) <= 9223372036854775807 := by unfold maxLen at hc; omega
 go_enter Tryz.func31, Tryz.ntmps31
 go_wp2
 go_loop [6] (fun i => ∃ (k : Nat), k <= t.length /\ i = .int .i64 k /\ Hid (∀ j, j < k -> badP (iAt t j) = false)) (fun i => t.length - (intOf i).toNat)
 case atStart => exact ⟨0, Nat.zero_le _, rfl, fun j hj => by omega⟩
 case round =>
  obtain ⟨k, hk, rfl, HE⟩ := hrel
  by_cases hlt : k < t.length
  ·have hI' := hI
   obtain ⟨b, o, rfl, hb⟩ := hI'.at (by omega)
   have c0 := hb k hlt
   clear hb hI'
   cases hx : badP (iAt t k)
   ·have HE' : Hid (∀ j, j < k + 1 -> badP (iAt t j) = false) := by
     intro j hj
     by_cases e : j = k
     ·rw [e, hx]
     ·exact HE.out j (by omega)
    obtain ⟨hx1, hx2⟩ := bad_false hx
    generalize iAt t k = x at c0 hx hx1 hx2
    clear hI
    go_wp2_with (first | (go_at_call 39; refine (rprint_any _ _).mono ?_; rintro e w' ⟨rfl, rfl⟩))
    go_round
    case rel => exact ⟨k + 1, by omega, by go_num, HE'⟩
    case measure => simp [intOf]; omega
   ·have hany : t.any badP = true := List.any_eq_true.2 ⟨t[k], List.getElem_mem hlt, by rw [show t[k] = iAt t k by simp [iAt, hlt]]; exact hx⟩
    have HS : Hid (Says w t (.returned (.tuple #[.slice none 0 0, .int .i64 4])) w) := says_bad hany (Below.refl _ _)
    have hx' := bad_true hx
    generalize iAt t k = x at c0 hx hx'
    clear hI
    rcases hx' with hx1 | ⟨hx1, rfl⟩
    ·go_wp2_with (first | (go_at_call 39; refine (rprint_any _ _).mono ?_; rintro e w' ⟨rfl, rfl⟩))
     exact bodyPost_ret (v := .tuple #[.slice none 0 0, .int .i64 4]) (by simp [results, Tryz.results31, go_sem]) rfl HS.out
    ·go_wp2_with (first | (go_at_call 39; refine (rprint_any _ _).mono ?_; rintro e w' ⟨rfl, rfl⟩))
     exact bodyPost_ret (v := .tuple #[.slice none 0 0, .int .i64 4]) (by simp [results, Tryz.results31, go_sem]) rfl HS.out
  ·obtain rfl : k = t.length := by omega
   have hany : t.any badP = false := by
    rw [List.any_eq_false]
    intro x hx
    obtain ⟨j, hj, rfl⟩ := List.mem_iff_getElem.1 hx
    have := HE.out j hj
    have e : iAt t j = t[j] := by simp [iAt, hj]
    rw [e] at this
    simp [this]
   have HA : Hid (t.any badP = false) := hany
   clear HE hany
   go_wp2
   go_loopw [4, 5, 7] (fun v f i wr => ∃ (fk ik : Nat) (pre : List (Nat × Nat)), f = .int .i64 fk /\ i = .int .i64 ik /\ ik <= t.length /\ Hid (Mid t fk ik pre) /\ Hid (Rws wr w.heap.size v (mapL t pre)) /\ Below w.heap.size w wr) (fun _ _ i _ => t.length - (intOf i).toNat)
   case atStart => exact ⟨0, 0, [], rfl, rfl, Nat.zero_le _, ⟨Nat.le_refl _, Nat.zero_le _, rfl, (fun j _ hj => by omega), Nat.le_refl _⟩, Rws_nil _ _, Below.refl _ _⟩
   case round =>
    obtain ⟨fk, ik, pre, rfl, rfl, hik, HM, HW, hB⟩ := hrel
    have hIr := hI.on hB
    by_cases hlt : ik < t.length
    ·obtain ⟨b, o, rfl, hb⟩ := hIr.at (by omega)
     have c0 := hb ik hlt
     cases hx : endP (iAt t ik)
     ·have HM' : Hid (Mid t fk (ik + 1) pre) := HM.out.on hlt hx
      generalize iAt t ik = x at c0 hx
      have hx1 : (x != 10) = true := by unfold endP at hx; simp at hx; simpa using hx.1
      have hx2 : (x != 13) = true := by unfold endP at hx; simp at hx; simpa using hx.2
      clear hb hIr hI
      go_wp2
      go_roundw
      case rel => exact ⟨fk, ik + 1, pre, rfl, by go_num, by omega, HM', HW, hB⟩
      case measure => simp [intOf]; omega
     ·have hxx : iAt t ik = 10 \/ iAt t ik = 13 := by unfold endP at hx; simpa using hx
      have hfi := HM.out.1
      have hcnt : (mapL t pre).length < 1099511627776 := by have := HM.out.2.2.2.2; rw [mapL_len]; omega
      have L := line_piece b o cap fk (ik - fk) t wr (by omega) hl hm hIr
      have S := slice_mid b o t.length cap fk ik hfi (by omega) (by omega)
      have hcell : ∀ w1, Below w.heap.size w w1 -> ∀ j, j < t.length -> w1.cell? ⟨b, o + j, none⟩ = some (.int .i64 (iAt t j)) := by
       intro w1 h1 j hj
       obtain ⟨b', o', e, hh⟩ := (hI.on h1).at (by omega)
       cases e
       exact hh j hj
      clear hb hIr
      rcases hxx with hx0 | hx0
      ·have HM' : Hid (Mid t (ik + 1) (ik + 1) (pre ++ [(fk, ik - fk)])) := HM.out.end hlt hx (endSz_1 (by omega))
       have hc10 : ∀ w1, Below w.heap.size w w1 -> w1.cell? ⟨b, o + ik, none⟩ = some (.int .i64 10) := fun w1 h1 => by rw [hcell w1 h1 ik hlt, hx0]
       rw [hx0] at c0
       clear hcell hx hI
       go_wp2_with (first | (go_at_call 53; refine L.mono ?_; rintro e W1 ⟨u, rfl, hcp⟩; obtain ⟨v', w1, hrun, hR1, -, hbel, ⟨g, kk, cc, rfl⟩, -⟩ := append_line HW.out hB.size hcp hcnt; obtain ⟨ua, uk, uc, rfl⟩ := ownsRow_form hcp.1; have hB1 := hB.trans hbel; have c0' := hc10 _ hB1; have HR1 : Hid _ := hR1; clear hR1 hcp) | (at_builtin; refine wpList_append_run rfl _ _ 22 rfl rfl rfl hrun ?_))
       go_roundw
       case rel => exact ⟨ik + 1, ik + 1, pre ++ [(fk, ik - fk)], by go_num, by go_num, by omega, HM', by rw [mapL_snoc]; exact HR1.out, hB1⟩
       case measure => simp [intOf]; omega
      ·have hc13 : ∀ w1, Below w.heap.size w w1 -> w1.cell? ⟨b, o + ik, none⟩ = some (.int .i64 13) := fun w1 h1 => by rw [hcell w1 h1 ik hlt, hx0]
       rw [hx0] at c0
       by_cases hl1 : ik + 1 < t.length
       ·have hli : (ik : Int) + 1 < t.length := by omega
        have hnx : ∀ w1, Below w.heap.size w w1 -> w1.cell? ⟨b, o + (ik + 1), none⟩ = some (.int .i64 (iAt t (ik + 1))) := fun w1 h1 => hcell w1 h1 (ik + 1) hl1
        by_cases hy : iAt t (ik + 1) = 10
        ·have HM' : Hid (Mid t (ik + 2) (ik + 2) (pre ++ [(fk, ik - fk)])) := HM.out.end hlt hx (endSz_2 hl1 hx0 hy)
         rw [hy] at hnx
         clear hcell hx hI
         go_wp2_with (first | (go_at_call 53; refine L.mono ?_; rintro e W1 ⟨u, rfl, hcp⟩; obtain ⟨v', w1, hrun, hR1, -, hbel, ⟨g, kk, cc, rfl⟩, -⟩ := append_line HW.out hB.size hcp hcnt; obtain ⟨ua, uk, uc, rfl⟩ := ownsRow_form hcp.1; have hB1 := hB.trans hbel; have c0' := hc13 _ hB1; have c1' := hnx _ hB1; have HR1 : Hid _ := hR1; clear hR1 hcp) | (at_builtin; refine wpList_append_run rfl _ _ 22 rfl rfl rfl hrun ?_))
         go_roundw
         case rel => exact ⟨ik + 2, ik + 2, pre ++ [(fk, ik - fk)], by go_num, by go_num, by omega, HM', by rw [mapL_snoc]; exact HR1.out, hB1⟩
         case measure => simp [intOf]; omega
        ·have HM' : Hid (Mid t (ik + 1) (ik + 1) (pre ++ [(fk, ik - fk)])) := HM.out.end hlt hx (endSz_1 (fun h => hy h.2.2))
         generalize iAt t (ik + 1) = y at hy hnx
         have hy' : (y == 10) = false := by simpa using hy
         clear hcell hx hI
         go_wp2_with (first | (go_at_call 53; refine L.mono ?_; rintro e W1 ⟨u, rfl, hcp⟩; obtain ⟨v', w1, hrun, hR1, -, hbel, ⟨g, kk, cc, rfl⟩, -⟩ := append_line HW.out hB.size hcp hcnt; obtain ⟨ua, uk, uc, rfl⟩ := ownsRow_form hcp.1; have hB1 := hB.trans hbel; have c0' := hc13 _ hB1; have c1' := hnx _ hB1; have HR1 : Hid _ := hR1; clear hR1 hcp) | (at_builtin; refine wpList_append_run rfl _ _ 22 rfl rfl rfl hrun ?_))
         go_roundw
         case rel => exact ⟨ik + 1, ik + 1, pre ++ [(fk, ik - fk)], by go_num, by go_num, by omega, HM', by rw [mapL_snoc]; exact HR1.out, hB1⟩
         case measure => simp [intOf]; omega
       ·have HM' : Hid (Mid t (ik + 1) (ik + 1) (pre ++ [(fk, ik - fk)])) := HM.out.end hlt hx (endSz_1 (fun h => hl1 h.1))
        have hli : ¬ (ik : Int) + 1 < t.length := by omega
        clear hcell hx hI
        go_wp2_with (first | (go_at_call 53; refine L.mono ?_; rintro e W1 ⟨u, rfl, hcp⟩; obtain ⟨v', w1, hrun, hR1, -, hbel, ⟨g, kk, cc, rfl⟩, -⟩ := append_line HW.out hB.size hcp hcnt; obtain ⟨ua, uk, uc, rfl⟩ := ownsRow_form hcp.1; have hB1 := hB.trans hbel; have c0' := hc13 _ hB1; have HR1 : Hid _ := hR1; clear hR1 hcp) | (at_builtin; refine wpList_append_run rfl _ _ 22 rfl rfl rfl hrun ?_))
        go_roundw
        case rel => exact ⟨ik + 1, ik + 1, pre ++ [(fk, ik - fk)], by go_num, by go_num, by omega, HM', by rw [mapL_snoc]; exact HR1.out, hB1⟩
        case measure => simp [intOf]; omega
    ·obtain rfl : ik = t.length := by omega
     by_cases hf : fk < t.length
     ·have hcut := HM.out.last hf
      have hcnt : (mapL t pre).length < 1099511627776 := by have := HM.out.2.2.2.2; rw [mapL_len]; omega
      obtain ⟨b, o, rfl, hb⟩ := hIr.at (by omega)
      have L := line_piece b o cap fk (t.length - fk) t wr (by omega) hl hm hIr
      have S : ∀ w2, (Instr.slice 41 (.slice (some ⟨b, o, none⟩) t.length cap) (some (.int .i64 fk)) none none).run Tryz.prog w2 = .ok (.slice (some ⟨b, o + fk, none⟩) (t.length - fk) (cap - fk)) w2 := by
       intro w2
       rw [slice_from _ _ _ _ (by omega) (by omega) w2, if_neg (by omega), Option.map_some, add_plain]
      have HL : Hid (mapL t pre ++ [lineP (pieceOf t (fk, t.length - fk))] = linesP t) := by
       show _ = _
       rw [<- mapL_snoc]
       exact mapL_all t hcut
      have hfi : (fk : Int) < t.length := by omega
      clear hcut hb hIr hI HM
      go_wp2_with (first | (go_at_call 53; refine L.mono ?_; rintro e W1 ⟨u, rfl, hcp⟩; obtain ⟨v', w1, hrun, hR1, -, hbel, ⟨g, kk, cc, rfl⟩, -⟩ := append_line HW.out hB.size hcp hcnt; obtain ⟨ua, uk, uc, rfl⟩ := ownsRow_form hcp.1; have hB1 := hB.trans hbel; rw [HL.out] at hR1; have HS : Hid _ := says_good HA.out hB1 hR1; clear hR1 hcp) | (at_builtin; refine wpList_append_run rfl _ _ 22 rfl rfl rfl hrun ?_))
      exact bodyPost_ret (v := .tuple #[.slice (some ⟨g, 0, none⟩) kk cc, .int .i64 0]) (by simp [results, Tryz.results31, go_sem]) rfl HS.out
     ·have hcut := HM.out.none hf
      have HS : Hid (Says w t (.returned (.tuple #[u4, .int .i64 0])) wr) := says_good HA.out hB (by rw [<- mapL_all t hcut]; exact HW.out)
      have hfi : ¬ (fk : Int) < t.length := by omega
      clear hcut hIr hI HM
      go_wp2
      exact bodyPost_ret (v := .tuple #[u4, .int .i64 0]) (by simp [results, Tryz.results31, go_sem]) rfl HS.out
end Go.Proofs.YtipbhdhiklmieaaGreatDoor.P3
namespace Go.Proofs.YtipbhdhiklmieaaGreatDoor
open Go.RowKit Go.Shelf
open P8
attribute [local go_sem] Oper.semAt_some
theorem clone_any (q : Option Addr) (t : List Int) (c : Nat) (w : World) (hn : t.length <= 1048576) (hI : Is w q t) :
  Calls Tryz.prog 23 #[.slice q t.length c] w fun e w' => ∃ v, e = .returned v /\ Owns w' w.heap.size v t /\ Below w.heap.size w w' := by
 have E := Lib.run_eql_slice_nil (P := Tryz.prog) w 41 3 q t.length c 0 0 Tryz.underlying41
 cases q with
 | none =>
  have h0 : t = [] := by
   cases t with
   | nil => rfl
   | cons x r => obtain ⟨b, o, h, -⟩ := hI.at (by simp); cases h
  subst h0
  simp only [Option.isNone_none, List.length_nil] at E
  go_enter Tryz.func23, Tryz.ntmps23
  go_wp2_with (first | (simp only [E, List.length_nil, Exit.andThen]))
  go_ret
  exact ⟨_, rfl, World.ownsRow_nil _ _ 3 1, Below.refl _ _⟩
 | some a =>
  simp only [Option.isNone_some] at E
  have hb1 : Below w.heap.size w (w.alloc (.cells #[] 3)) := (Below.refl _ w).alloc (Nat.le_refl _) _
  have ho : Owns (w.alloc (.cells #[] 3)) w.heap.size (.slice (some ⟨w.heap.size, 0, none⟩) 0 0) [] := ⟨rfl, .inr ⟨w.heap.size, 0, #[], rfl, Nat.le_refl _, World.alloc_heap_new w _, Nat.le_refl _, Nat.zero_le _, rfl, rfl⟩⟩
  obtain ⟨v3, w3, hrun3, ho3, hg3⟩ := P8.pushL c ho hb1.size (by simp; omega) (hI.alloc _)
  have hb3 := owns_below ho hg3 (Nat.le_refl _) hb1.size
  rw [List.nil_append] at ho3
  go_enter Tryz.func23, Tryz.ntmps23
  go_wp2_with (first | (simp only [E, Exit.andThen]) | (at_builtin; refine wpList_append_run (u := .slice (some ⟨w.heap.size, 0, none⟩) 0 0) (y := .slice (some a) t.length c) rfl _ _ 41 rfl rfl rfl hrun3 ?_; clear hrun3))
  go_ret
  exact ⟨_, rfl, ho3, hb1.trans hb3⟩
end Go.Proofs.YtipbhdhiklmieaaGreatDoor
namespace Go.Proofs.YtipbhdhiklmieaaGreatDoor
open Go.RowKit Go.Shelf
open P8 (Owns)
attribute [local go_sem] Oper.semAt_some
theorem info44z : (Tryz.prog.info? 44).map (fun i => (i.zero, i.size, i.bytes)) = some (some (.agg #[.int .i64 0, .slice none 0 0]), 2, 32) := by kernel_rfl
theorem und22 : Tryz.prog.underlying 22 = some (.slice 44) := by kernel_rfl
structure Nw (w wr : World) (M : List Ln) (k : Nat) (M2 : List Ln) : Prop where
 bel : Below w.heap.size w wr
 lt : w.heap.size < wr.heap.size
 th : wr.there w.heap.size 0 (M.length * 2)
 len : M2.length = k
 lp : M2.map Ln.lp = (M.take k).map Ln.lp
 cel : ∀ (j : Nat) (x : Ln), M2[j]? = some x -> wr.cell? ⟨w.heap.size, j * 2, none⟩ = some (.int .i64 x.n) /\ wr.cell? ⟨w.heap.size, j * 2 + 1, none⟩ = some (.slice x.q x.t.length x.c)
 txt : ∀ (j : Nat) (x : Ln), M2[j]? = some x -> x.t.length <= x.c /\ x.c <= maxLen /\ Is wr x.q x.t /\ ∀ a, x.q = some a -> 0 < x.t.length -> w.heap.size < a.block
section
variable {w wr V : World} {M M2 : List Ln} {k : Nat}
theorem Nw.on (h : Nw w wr M k M2) (hb : Below wr.heap.size wr V) : Nw w V M k M2 := by
 refine ⟨h.bel.trans (hb.mono h.bel.size), Nat.lt_of_lt_of_le h.lt hb.size, fun j hj => ?_, h.len, h.lp, fun j x hx => ?_, fun j x hx => ?_⟩
 ·have := h.th j hj
  exact ⟨by rw [hb.cell (p := ⟨w.heap.size, 0 + j, none⟩) h.lt]; exact this.1, by rw [hb.frozen (p := ⟨w.heap.size, 0 + j, none⟩) h.lt]; exact this.2⟩
 ·obtain ⟨h1, h2⟩ := h.cel j x hx
  exact ⟨(hb.cell (p := ⟨w.heap.size, j * 2, none⟩) h.lt).trans h1, (hb.cell (p := ⟨w.heap.size, j * 2 + 1, none⟩) h.lt).trans h2⟩
 ·obtain ⟨h1, h2, h3, h4⟩ := h.txt j x hx
  exact ⟨h1, h2, h3.on hb, h4⟩
theorem Is.set {q : Option Addr} {t : List Int} {g o : Nat} (h : Is V q t) (hq : ∀ a, q = some a -> 0 < t.length -> a.block ≠ g) (u : Value) : Is (V.setCell ⟨g, o, none⟩ u) q t := by
 rcases h with rfl | ⟨b, o', rfl, hc⟩
 ·exact .inl rfl
 ·refine .inr ⟨b, o', rfl, fun j hj => ?_⟩
  have hne := hq ⟨b, o', none⟩ rfl (by omega)
  rw [World.cell?_setCell_other _ _ _ _ (fun e => hne (by rw [Addr.mk.injEq] at e; exact e.1.symm))]
  exact hc j hj
theorem owns_at {base : Nat} {v : Value} {t : List Int} (h : Owns V base v t) : ∃ q c, v = .slice q t.length c /\ Is V q t /\ t.length <= c /\ c <= maxLen /\ ∀ a, q = some a -> base <= a.block := by
 obtain ⟨q, k, c, rfl⟩ := ownsRow_form h
 obtain ⟨h1, rfl, h3, h4⟩ := is_of_row h
 refine ⟨q, c, rfl, h1, h3, h4, fun a e => ?_⟩
 obtain ⟨-, ⟨e1, -⟩ | ⟨g, cap, cur, e1, hb, -⟩⟩ := h
 ·have := (Value.slice.inj e1).1
  rw [e] at this
  cases this
 ·have := (Value.slice.inj e1).1
  rw [e] at this
  cases this
  exact hb
theorem there_set {g n o : Nat} {u : Value} (h : V.there g 0 n) : (V.setCell ⟨g, o, none⟩ u).there g 0 n := by
 intro j hj
 obtain ⟨h1, h2⟩ := h j hj
 refine ⟨?_, by rw [World.frozen?_setCell]; exact h2⟩
 by_cases e : o = 0 + j
 ·subst e
  obtain ⟨y, hy⟩ := Option.isSome_iff_exists.1 h1
  rw [World.cell?_setCell_same _ _ _ hy]
  rfl
 ·rw [World.cell?_setCell_other _ _ _ _ (fun e' => e (by rw [Addr.mk.injEq] at e'; exact e'.2.1))]
  exact h1
theorem Nw.step {x : Ln} {base : Nat} {q : Option Addr} {c : Nat} (h : Nw w V M k M2) (hx : M[k]? = some x) (hb : w.heap.size < base) (hI : Is V q x.t) (h1 : x.t.length <= c) (h2 : c <= maxLen) (hq : ∀ a, q = some a -> base <= a.block) :
  Nw w ((V.setCell ⟨w.heap.size, k * 2, none⟩ (.int .i64 x.n)).setCell ⟨w.heap.size, k * 2 + 1, none⟩ (.slice q x.t.length c)) M (k + 1) (M2 ++ [⟨x.n, q, x.t, c⟩]) := by
 have hk : k < M.length := (List.getElem?_eq_some_iff.1 hx).1
 have hlen := h.len
 have c0 := (h.th (k * 2) (by omega)).1
 have c1 := (h.th (k * 2 + 1) (by omega)).1
 rw [Nat.zero_add] at c0 c1
 obtain ⟨y0, hy0⟩ := Option.isSome_iff_exists.1 c0
 obtain ⟨y1, hy1⟩ := Option.isSome_iff_exists.1 c1
 have ne (a b : Nat) (hab : a ≠ b) : (⟨w.heap.size, a, none⟩ : Addr) ≠ ⟨w.heap.size, b, none⟩ := fun e => hab (by rw [Addr.mk.injEq] at e; exact e.2.1)
 refine ⟨(h.bel.setCell (p := ⟨w.heap.size, k * 2, none⟩) (Nat.le_refl _) _).setCell (p := ⟨w.heap.size, k * 2 + 1, none⟩) (Nat.le_refl _) _, by simp [World.setCell]; exact h.lt, there_set (there_set h.th), by simp [hlen], ?_, fun j y hy => ?_, fun j y hy => ?_⟩
 ·rw [List.map_append, h.lp, List.take_add_one, hx, List.map_append]
  rfl
 ·by_cases hj : j < k
  ·rw [List.getElem?_append_left (by omega)] at hy
   obtain ⟨a1, a2⟩ := h.cel j y hy
   rw [World.cell?_setCell_other _ _ _ _ (ne _ _ (by omega)), World.cell?_setCell_other _ _ _ _ (ne _ _ (by omega)), World.cell?_setCell_other _ _ _ _ (ne _ _ (by omega)), World.cell?_setCell_other _ _ _ _ (ne _ _ (by omega))]
   exact ⟨a1, a2⟩
  ·rw [List.getElem?_append_right (by omega), hlen] at hy
   have hj2 : j = k := by
    have := (List.getElem?_eq_some_iff.1 hy).1
    simp at this
    omega
   subst hj2
   simp at hy
   subst hy
   rw [World.cell?_setCell_other _ _ _ _ (ne _ _ (by omega)), World.cell?_setCell_same _ _ _ hy0]
   refine ⟨rfl, ?_⟩
   have := (World.cell?_setCell_other V ⟨w.heap.size, j * 2, none⟩ ⟨w.heap.size, j * 2 + 1, none⟩ (.int .i64 x.n) (ne _ _ (by omega))).trans hy1
   rw [World.cell?_setCell_same _ _ _ this]
 ·by_cases hj : j < k
  ·rw [List.getElem?_append_left (by omega)] at hy
   obtain ⟨a1, a2, a3, a4⟩ := h.txt j y hy
   have hne : ∀ a, y.q = some a -> 0 < y.t.length -> a.block ≠ w.heap.size := fun a e hl => by have := a4 a e hl; omega
   exact ⟨a1, a2, (a3.set hne _).set hne _, a4⟩
  ·rw [List.getElem?_append_right (by omega), hlen] at hy
   have hj2 : j = k := by
    have := (List.getElem?_eq_some_iff.1 hy).1
    simp at this
    omega
   subst hj2
   simp at hy
   subst hy
   have hne : ∀ a, q = some a -> 0 < x.t.length -> a.block ≠ w.heap.size := fun a e _ => by have := hq a e; omega
   exact ⟨h1, h2, (hI.set hne _).set hne _, fun a e _ => by have := hq a e; omega⟩
theorem Nw.ls (h : Nw w V M M.length M2) : Ls V (some ⟨w.heap.size, 0, none⟩) M2 /\ M2.map Ln.lp = M.map Ln.lp := by
 refine ⟨⟨fun j x hx => ?_, .inr ⟨w.heap.size, 0, rfl, fun j x hx => ?_⟩⟩, ?_⟩
 ·obtain ⟨h1, h2, h3, -⟩ := h.txt j x hx
  exact ⟨h1, h2, h3⟩
 ·have := h.cel j x hx
  simpa using this
 ·have := h.lp
  rwa [List.take_length] at this
end
def Sb (V : World) (b : Nat) (W : World) : Prop := W.heap[b]? = V.heap[b]?
theorem Sb.cell {V W : World} {b o : Nat} {v : Value} (h : Sb V b W) (hc : V.cell? ⟨b, o, none⟩ = some v) : W.cell? ⟨b, o, none⟩ = some v := (World.cell?_of_block (a := ⟨b, o, none⟩) h).trans hc
theorem opIn_store_at {F : Fence} {n : Nat} {P : Program} {w : World} {o : Oper} {a : Act} {Q : Exit -> Act -> World -> Prop} {K : Act -> World -> Prop} (ty : TypeId) (x y : Operand) (ho : o.op = .store ty x y)
  (b off : Nat) (cells : Array Value) (hx : a.eval x = .pointer (some ⟨b, off, none⟩)) (hy : a.eval y = .agg cells) (ht : w.there b off cells.size) (hi : (P.info? ty).map (·.size) = some cells.size) (h1 : cells.all (·.oneCell') = true)
  (h : K (a.put o.dst undef) (w.setCells b off cells.toList)) : Oper.wpIn F n P o a w K Q := by
 have hr := run_storeAt_mid (P := P) w b off ty cells ht hi h1
 unfold Oper.wpIn
 refine ⟨?_, ?_⟩
 ·simp [Oper.about, ho]
 ·rw [Oper.semAt_plain F _ _ (by rw [ho]; intro c hc'; cases hc')]
  simp [execOp, ho, hx, hy, hr, Oper.uponIn]
  exact h
theorem make_lines (n : Nat) (hn : n <= 1048576) (w : World) : (Instr.makeSlice 22 (.int .i64 n) (.int .i64 n)).run Tryz.prog w = .ok (.slice (some ⟨w.heap.size, 0, none⟩) n n) (w.alloc (.cells (madeCells #[.int .i64 0, .slice none 0 0] (n * 2)) 44)) := by
 obtain ⟨i0, hi, hz0, hz1, hz2⟩ := info_parts info44z
 have := run_make (P := Tryz.prog) w 22 44 i0 (.agg #[.int .i64 0, .slice none 0 0]) und22 hi hz0 .i64 .i64 (n : Int) (n : Int) (by omega) (by omega) (by rw [hz2]; omega) (by omega)
 rw [hz1] at this
 exact this
theorem nw_start (w : World) (M : List Ln) : Nw w (w.alloc (.cells (madeCells #[.int .i64 0, .slice none 0 0] (M.length * 2)) 44)) M 0 [] := by
 refine ⟨(Below.refl _ w).alloc (Nat.le_refl _) _, by simp, fun j hj => ?_, rfl, rfl, fun j x hx => by simp at hx, fun j x hx => by simp at hx⟩
 have hs := size_madeCells #[.int .i64 0, .slice none 0 0] (M.length * 2)
 have hh : (w.alloc (.cells (madeCells #[.int .i64 0, .slice none 0 0] (M.length * 2)) 44)).heap[w.heap.size]? = some (.cells (madeCells #[.int .i64 0, .slice none 0 0] (M.length * 2)) 44) := World.alloc_heap_new w _
 generalize madeCells #[.int .i64 0, .slice none 0 0] (M.length * 2) = cs at hs hh |-
 generalize w.alloc (.cells cs 44) = W at hh |-
 constructor
 ·simp [World.cell?, hh, hs, hj]
 ·simp [World.frozen?, hh]
theorem New_any {q : Option Addr} {M : List Ln} {c : Nat} {w : World} (hls : Ls w q M) (hm : M.length <= 600) (ht : ∀ (j : Nat) (x : Ln), M[j]? = some x -> x.t.length <= 1048576) :
  Calls Tryz.prog 11 #[.slice q M.length c] w fun e w' => ∃ rb M2, e = .returned (.pointer (some ⟨rb, 0, none⟩)) /\ w'.cell? ⟨rb, 0, none⟩ = some (.slice (some ⟨w.heap.size, 0, none⟩) M2.length M2.length) /\ Ls w' (some ⟨w.heap.size, 0, none⟩) M2 /\ M2.map Ln.lp = M.map Ln.lp /\ Below w.heap.size w w' := by
 have MK := make_lines M.length (by omega)
 have N0 : Hid (Nw w (w.alloc (.cells (madeCells #[.int .i64 0, .slice none 0 0] (M.length * 2)) 44)) M 0 []) := nw_start w M
 have HL : Hid (Ls w q M) := hls
 have HT : Hid (∀ (j : Nat) (x : Ln), M[j]? = some x -> x.t.length <= 1048576) := ht
 clear hls ht
 refine (callsIn_wide (n := 9)).1 ?_
 refine callsIn_of_wp Tryz.func11 rfl trivial ?_ rfl
 simp only [Tryz.ntmps11, frm, Nat.reduceAdd, Nat.reduceSub]
 gi_wp2
 generalize w.alloc (.cells (madeCells #[.int .i64 0, .slice none 0 0] (M.length * 2)) 44) = W0 at N0 |-
 gi_loopw [11] (fun i wr => ∃ (k : Nat) (M2 : List Ln), k <= M.length /\ i = .int .i64 (k : Nat) /\ Hid (Nw w wr M k M2)) (fun i _ => M.length - (intOf i).toNat)
 case atStart => exact ⟨0, [], Nat.zero_le _, rfl, N0⟩
 case round =>
  obtain ⟨k, M2, hk, rfl, HN⟩ := hrel
  by_cases hlt : k < M.length
  ·obtain ⟨x, hx⟩ : ∃ x, M[k]? = some x := ⟨_, List.getElem?_eq_getElem hlt⟩
   have hxt := HT.out k x hx
   have hlr := HL.out.b.on HN.out.bel
   obtain ⟨b, o, rfl, hc⟩ := hlr.1.at (by omega)
   obtain ⟨l0, l1⟩ := hc k x hx
   have hxI := (hlr.1.1 k x hx).2.2
   have hki : (k : Int) < (M.length : Int) := by omega
   have hkl : (k : Nat) < M.length := hlt
   have hkm : (k : Int) <= 1048576 := by omega
   have HX : Hid (M[k]? = some x) := hx
   clear hc hx hlr
   gi_wp2
   have HZ : Hid (Nw w (wr.alloc (.cells #[.int .i64 x.n, .slice x.q x.t.length x.c] 44)) M k M2) := HN.out.on ((Below.refl _ wr).alloc (Nat.le_refl _) _)
   have zI : Is (wr.alloc (.cells #[.int .i64 x.n, .slice x.q x.t.length x.c] 44)) x.q x.t := hxI.alloc _
   have zb : (wr.alloc (.cells #[.int .i64 x.n, .slice x.q x.t.length x.c] 44)).heap[wr.heap.size]? = some (.cells #[.int .i64 x.n, .slice x.q x.t.length x.c] 44) := World.alloc_heap_new wr _
   have hlb : wr.heap.size < (wr.alloc (.cells #[.int .i64 x.n, .slice x.q x.t.length x.c] 44)).heap.size := by simp
   have hlw := HN.out.lt
   generalize wr.alloc (.cells #[.int .i64 x.n, .slice x.q x.t.length x.c] 44) = Z at HZ zI zb hlb |-
   generalize wr.heap.size = lb at zb hlb hlw |-
   have g0 : Z.cell? ⟨lb, 0, none⟩ = some (.int .i64 x.n) := by simp [World.cell?, zb]
   have g1 : Z.cell? ⟨lb, 1, none⟩ = some (.slice x.q x.t.length x.c) := by simp [World.cell?, zb]
   have CL := fun m => (callsIn_wide (n := m)).2 (clone_any x.q x.t x.c Z.drew hxt zI.drew)
   have T0 : Sb Z lb Z.drew := rfl
   clear zI hxI l0 l1 HN
   refine region_pickN (Sb Z lb) (by kernel_rfl) ?_
   show Any _ _ _ _ _ _ 10 _ ⟨#[_,_,_,_,_,_,_,_,_,_,_,_,_,_,_,_,_,_,_,_,_,_,_,_,_,_,_,_,_], []⟩ Z.drew
   refine .tp 0 (.slice (some ⟨w.heap.size, 0, none⟩) M.length M.length) T0 ?_
   refine .tp 1 (.int .i64 (k : Nat)) T0 ?_
   refine .tp 2 (.pointer (some ⟨lb, 0, none⟩)) T0 ?_
   refine .tl 3 (.int .i64 x.n) rfl (fun w hw => by have a1 := hw.cell g0; go_simp) T0 ?_
   refine .tp 4 (.pointer (some ⟨lb, 1, none⟩)) T0 ?_
   refine .tl 5 (.slice x.q x.t.length x.c) rfl (fun w hw => by have a1 := hw.cell g1; go_simp) T0 ?_
   show Any _ _ _ _ _ _ 4 _ ⟨#[_,_,_,_,_,_,_,_,_,_,_,_,_,_,_,_,_,_,_,_,_,_,_,_,_,_,_,_,_], []⟩ _
   refine .on 6 rfl rfl fun K hK => ?_
   go_simp
   first | refine tr2 ?_ | refine tr1 ?_
   refine (CL _).mono ?_
   clear CL
   rintro en V1 ⟨v, rfl, hO, hB1⟩
   obtain ⟨vq, vc, rfl, vI, vl, vm, vb⟩ := owns_at hO
   have T1 : Sb Z lb V1 := (hB1.block lb hlb)
   have HN1 : Hid (Nw w V1 M k M2) := HZ.out.on ⟨hB1.os, hB1.tape, hB1.output, hB1.size, hB1.block⟩
   have HVI : Hid (Is V1 vq x.t) := vI
   have th1 : V1.there w.heap.size (k * 2) 2 := fun j hj => by have := HN1.out.th (k * 2 + j) (by omega); rw [Nat.zero_add] at this; exact this
   clear vI hO
   refine hK _ _ T1 ?_
   clear hK K
   show Any _ _ _ _ _ _ 3 _ ⟨#[_,_,_,_,_,_,_,_,_,_,_,_,_,_,_,_,_,_,_,_,_,_,_,_,_,_,_,_,_], []⟩ V1
   refine .tp 7 (.agg #[.int .i64 x.n, .slice vq x.t.length vc]) T1 ?_
   refine .tl 8 (.pointer (some ⟨w.heap.size, k * 2, none⟩)) rfl (fun w _ => by have := hkm; have := hkl; go_simp) T1 ?_
   refine .on 9 rfl rfl fun K hK => ?_
   refine opIn_store_at 44 _ _ rfl w.heap.size (k * 2) #[.int .i64 x.n, .slice vq x.t.length vc] rfl rfl th1 (by kernel_rfl) (by simp [Value.oneCell']) ?_
   refine hK _ _ ?_ ?_
   ·exact ((Below.heap_setCell _ _ _ _ (by show lb ≠ w.heap.size; omega)).trans (Below.heap_setCell _ _ _ _ (by show lb ≠ w.heap.size; omega))).trans T1
   clear hK K
   show Any _ _ _ _ _ _ 0 _ ⟨#[_,_,_,_,_,_,_,_,_,_,_,_,_,_,_,_,_,_,_,_,_,_,_,_,_,_,_,_,_], []⟩ ((V1.setCell ⟨w.heap.size, k * 2, none⟩ (.int .i64 x.n)).setCell ⟨w.heap.size, k * 2 + 1, none⟩ (.slice vq x.t.length vc))
   refine Any.done (by kernel_rfl) ?_
   rename_i Kb hKb
   refine hKb _ _ ?_
   clear hKb
   have HF : Hid (Nw w ((V1.setCell ⟨w.heap.size, k * 2, none⟩ (.int .i64 x.n)).setCell ⟨w.heap.size, k * 2 + 1, none⟩ (.slice vq x.t.length vc)) M (k + 1) (M2 ++ [⟨x.n, vq, x.t, vc⟩])) := HN1.out.step HX.out (base := Z.drew.heap.size) (by show w.heap.size < Z.heap.size; omega) HVI.out vl vm vb
   clear T0 T1 th1 g0 g1 zb
   generalize (V1.setCell ⟨w.heap.size, k * 2, none⟩ (.int .i64 x.n)).setCell ⟨w.heap.size, k * 2 + 1, none⟩ (.slice vq x.t.length vc) = V2 at HF |-
   gi_wp2
   go_roundw
   case rel => exact ⟨k + 1, _, by omega, by go_num, HF⟩
   case measure => simp [intOf]; omega
  ·obtain rfl : k = M.length := by omega
   have hB := HN.out.bel
   obtain ⟨h1, h2⟩ := HN.out.ls
   have hl2 := HN.out.len
   have HR : Hid (Below w.heap.size w (wr.alloc (.cells #[.slice (some ⟨w.heap.size, 0, none⟩) M.length M.length] 58)) /\ Ls (wr.alloc (.cells #[.slice (some ⟨w.heap.size, 0, none⟩) M.length M.length] 58)) (some ⟨w.heap.size, 0, none⟩) M2 /\ M2.map Ln.lp = M.map Ln.lp /\ M2.length = M.length /\ (wr.alloc (.cells #[.slice (some ⟨w.heap.size, 0, none⟩) M.length M.length] 58)).cell? ⟨wr.heap.size, 0, none⟩ = some (.slice (some ⟨w.heap.size, 0, none⟩) M.length M.length)) := ⟨hB.alloc hB.size _, h1.on ((Below.refl _ wr).alloc (Nat.le_refl _) _), h2, hl2, by
    have zb : (wr.alloc (.cells #[.slice (some ⟨w.heap.size, 0, none⟩) M.length M.length] 58)).heap[wr.heap.size]? = some (.cells #[.slice (some ⟨w.heap.size, 0, none⟩) M.length M.length] 58) := World.alloc_heap_new wr _
    generalize wr.alloc (.cells #[.slice (some ⟨w.heap.size, 0, none⟩) M.length M.length] 58) = Z at zb |-
    simp [World.cell?, zb]⟩
   clear hB h1 h2 HN
   gi_wp2
   obtain ⟨a1, a2, a3, a4, a5⟩ := HR.out
   exact bodyPost_ret (v := .pointer (some ⟨wr.heap.size, 0, none⟩)) (by simp [results, Tryz.results11, go_sem]) rfl ⟨_, M2, rfl, by rw [a4]; exact a5, a2, a3, a1⟩
end Go.Proofs.YtipbhdhiklmieaaGreatDoor
namespace Go.Proofs.YtipbhdhiklmieaaGreatDoor
open Go.RowKit Go.Shelf
open P8 (Owns)
open P3 (Rws linesP badP Says)
def bI (s : ByteArray) : List Int := s.data.toList.map fun b => (b.toNat : Int)
def lpsO (t : List Int) : List Lp := (linesP t).map fun x => ⟨x.1, x.2⟩
theorem bI_len (s : ByteArray) : (bI s).length = s.size := by unfold bI; rw [List.length_map]; rfl
theorem bytes_bt (w : World) (s : ByteArray) : Bt (Lib.bytesWorld w 5 s) (some ⟨w.heap.size, 0, none⟩) (bI s) := by
 refine .inr ⟨w.heap.size, 0, rfl, fun j hj => ?_⟩
 rw [bI_len] at hj
 rw [Nat.zero_add, Lib.bytesWorld_cell w 5 s j hj]
 have hj' : j < s.data.toList.length := hj
 simp [bI, iAt, List.getD, List.getElem?_eq_getElem hj']
theorem bytes_below (w : World) (s : ByteArray) : Below w.heap.size w (Lib.bytesWorld w 5 s) :=
 ⟨rfl, rfl, rfl, by rw [Lib.bytesWorld_size]; omega, fun k hk => Lib.bytesWorld_at_old w 5 s k hk⟩
theorem each_one {α β : Type} : ∀ (xs : List α) (R : Nat -> α -> β -> Prop), (∀ j x, xs[j]? = some x -> ∃ y, R j x y) -> ∃ ys : List β, ys.length = xs.length /\ ∀ j x, xs[j]? = some x -> ∃ y, ys[j]? = some y /\ R j x y
 | [], R, h => ⟨[], rfl, fun j x hx => by simp at hx⟩
 | x :: xs, R, h => by
  obtain ⟨y, hy⟩ := h 0 x rfl
  obtain ⟨ys, h1, h2⟩ := each_one xs (fun j => R (j + 1)) (fun j z hz => h (j + 1) z hz)
  refine ⟨y :: ys, by simp [h1], fun j z hz => ?_⟩
  cases j with
  | zero => cases hz; exact ⟨y, rfl, hy⟩
  | succ j => exact h2 j z hz
theorem rws_ls {w : World} {base : Nat} {v : Value} {xs : List (Nat × List Int)} (h : Rws w base v xs) :
  ∃ p M c, v = .slice p M.length c /\ Ls w p M /\ M.map Ln.lp = xs.map (fun x => (⟨x.1, x.2⟩ : Lp)) /\ M.length <= c /\ c <= maxLen := by
 obtain ⟨cells, h1, h2⟩ := h
 obtain ⟨M, hl, hM⟩ := each_one (β := Ln) xs (fun j x y => y.lp = ⟨x.1, x.2⟩ /\ y.t.length <= y.c /\ y.c <= maxLen /\ Is w y.q y.t /\ cells[2 * j]? = some (.int .i64 y.n) /\ cells[2 * j + 1]? = some (.slice y.q y.t.length y.c)) (fun j x hx => by
  obtain ⟨a, t, b, ho⟩ := h2 j x hx
  obtain ⟨q, c, rfl, hI, hc1, hc2, -⟩ := owns_at (V := w) (t := x.2) ho
  exact ⟨⟨x.1, q, x.2, c⟩, rfl, hc1, hc2, hI, a, b⟩)
 have hmap : M.map Ln.lp = xs.map (fun x => (⟨x.1, x.2⟩ : Lp)) := by
  apply List.ext_getElem?
  intro j
  rw [List.getElem?_map, List.getElem?_map]
  cases hx : xs[j]? with
  | none =>
   have : M[j]? = none := by
    rw [List.getElem?_eq_none_iff] at hx |-
    omega
   rw [this]
   rfl
  | some x =>
   obtain ⟨y, hy, hp, -⟩ := hM j x hx
   rw [hy]
   simp [hp]
 have hback : ∀ j y, M[j]? = some y -> ∃ x, xs[j]? = some x := fun j y hy => by
  have : j < xs.length := by have := (List.getElem?_eq_some_iff.1 hy).1; omega
  exact ⟨_, List.getElem?_eq_getElem this⟩
 have hall : ∀ j y, M[j]? = some y -> y.t.length <= y.c /\ y.c <= maxLen /\ Is w y.q y.t /\ cells[2 * j]? = some (.int .i64 y.n) /\ cells[2 * j + 1]? = some (.slice y.q y.t.length y.c) := fun j y hy => by
  obtain ⟨x, hx⟩ := hback j y hy
  obtain ⟨y', hy', -, h3, h4, h5, h6, h7⟩ := hM j x hx
  rw [hy] at hy'
  cases hy'
  exact ⟨h3, h4, h5, h6, h7⟩
 have hh := h1
 obtain ⟨hlen, ⟨e1, e2⟩ | ⟨g, cap, cur, e1, hb, hg, hn, hc, -⟩⟩ := h1
 ·have : M = [] := List.eq_nil_of_length_eq_zero (by omega)
  subst this
  refine ⟨none, [], 0, by rw [e1]; rfl, ⟨fun j x hx => by simp at hx, .inl rfl⟩, hmap, Nat.le_refl _, by unfold maxLen; omega⟩
 ·refine ⟨some ⟨g, 0, none⟩, M, cap, by rw [e1, hl], ⟨fun j y hy => ?_, .inr ⟨g, 0, rfl, fun j y hy => ?_⟩⟩, hmap, by omega, hc⟩
  ·obtain ⟨h3, h4, h5, -⟩ := hall j y hy
   exact ⟨h3, h4, h5⟩
  ·obtain ⟨-, -, -, h6, h7⟩ := hall j y hy
   have c0 := World.ownsRow.cells hh (g := g) (by rw [e1]; rfl) (2 * j) _ h6
   have c1 := World.ownsRow.cells hh (g := g) (by rw [e1]; rfl) (2 * j + 1) _ h7
   rw [add_plain] at c0 c1
   rw [Nat.mul_comm j 2]
   exact ⟨c0, c1⟩
theorem Lines_any (s : ByteArray) (hl : s.size <= 1048576) (ha : Asc (bI s)) (hb : (bI s).any badP = false) (w : World) :
  Calls Tryz.prog 16 #[.string s] w fun e w' => ∃ p M c, e = .returned (.slice p M.length c) /\ Ls w' p M /\ M.map Ln.lp = lpsO (bI s) /\ M.length <= c /\ c <= maxLen /\ Below w.heap.size w w' := by
 have CV := fun w0 : World => Lib.run_convert_string_bytes (P := Tryz.prog) w0 9 82 5 s (u := .string) Tryz.underlying9 Tryz.underlying82 Tryz.underlying5
 have hge := grownCap_ge w s.size 0 5
 have hle := grownCap_le_maxLen w s.size 0 5 (by unfold maxLen; omega)
 have hbb := bytes_below w s
 have P := Points_asc (some ⟨w.heap.size, 0, none⟩) (bI s) (grownCap w s.size 0 5) (Lib.bytesWorld w 5 s) (by rw [bI_len]; exact hl) (by rw [bI_len]; exact hge) hle (bytes_bt w s) ha
 rw [bI_len] at P
 have HB : Hid ((bI s).any badP = false) := hb
 have hln : (bI s).length <= 1048576 := by rw [bI_len]; exact hl
 generalize bI s = t at P HB hln |-
 have CW := CV w
 clear ha hb CV
 generalize Lib.bytesWorld w 5 s = W0 at CW P hbb
 go_enter Tryz.func16, Tryz.ntmps16
 go_wp2_with (first | (go_at_call 30; refine P.mono ?_; rintro e W1 ⟨v, rfl, ho, hb1⟩; obtain ⟨q, c1, rfl, hI, hc1, hc2, -⟩ := owns_at ho; have L := P3.reflines_says q t c1 W1 hc1 hc2 (by omega) hI; have HB1 : Hid (Below w.heap.size w W1) := hbb.trans (hb1.mono hbb.size); clear P hI ho hb1) | (go_at_call 31; refine L.mono ?_; clear L; intro e W2 hs; unfold Says at hs; rw [HB.out] at hs; obtain ⟨v2, rfl, hb2, hr⟩ := hs; obtain ⟨p, M, c2, rfl, hls, hmp, hm1, hm2⟩ := rws_ls hr; have HR : Hid (Ls W2 p M /\ M.map Ln.lp = lpsO t /\ M.length <= c2 /\ c2 <= maxLen /\ Below w.heap.size w W2) := ⟨hls, hmp, hm1, hm2, HB1.out.trans (hb2.mono HB1.out.size)⟩; clear hls hmp hr hb2))
 go_ret
 exact ⟨p, M, c2, rfl, HR.out⟩
end Go.Proofs.YtipbhdhiklmieaaGreatDoor
