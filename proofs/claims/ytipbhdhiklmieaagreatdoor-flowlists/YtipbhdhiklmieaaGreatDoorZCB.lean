/- What FlowLists has in memory. -/
import Derived.Test.YtipbhdhiklmieaaGreatDoorZCA
import Derived.Laws.Concat
import Derived.Laws.StructEq
import Derived.Laws.BitsLemmas
set_option linter.all false
set_option maxRecDepth 100000
set_option maxHeartbeats 8000000
namespace Go.Proofs.YtipbhdhiklmieaaGreatDoor
open Go.RowKit Go.Shelf
theorem and1023 (n : Int) : bits .and .i64 n 1023 = n % 1024 := by
 have h127 : (BitVec.ofInt 64 1023).toNat = 2 ^ 10 - 1 := by decide
 have key : (BitVec.ofInt 64 n &&& BitVec.ofInt 64 1023).toNat = (n % ((2 ^ 64 : Nat) : Int)).toNat % 2 ^ 10 := by
  rw [BitVec.toNat_and, BitVec.toNat_ofInt, h127, Nat.and_two_pow_sub_one_eq_mod]
 show IntKind.i64.wrap ((BitVec.ofInt 64 n &&& BitVec.ofInt 64 1023).toNat : Nat) = n % 1024
 rw [key, IntKind.wrap_i64]
 omega
theorem addS (a b : ByteArray) (ha : a.size <= 2000) (hb : b.size <= 2000) (w : World) : (Op.stringOp .add a b).run Tryz.prog w = .ok (.string (a ++ b)) w := run_string_add_sum w a b (by omega)
theorem apZ (a b : ByteArray) : (a ++ b).size = a.size + b.size := ByteArray.size_append ..
theorem bI_app (a b : ByteArray) : bI (a ++ b) = bI a ++ bI b := by
 unfold bI
 rw [ByteArray.data_append]
 simp
def gix (g : Int) : Nat := (g % 1024 % 5).toNat
theorem gix_lt (g : Int) : gix g < 5 := by unfold gix; omega
def gapB : Nat -> ByteArray
 | 0 => ⟨#[]⟩
 | 1 => ⟨#[32]⟩
 | 2 => ⟨#[10, 32]⟩
 | 3 => ⟨#[32, 35, 32, 99, 10, 10, 32, 32]⟩
 | _ => ⟨#[9]⟩
theorem gapB_I (j : Nat) : bI (gapB j) = gapI j := by
 match j with
 | 0 => rfl
 | 1 => rfl
 | 2 => rfl
 | 3 => rfl
 | j + 4 => rfl
theorem gapB_size (j : Nat) : (gapB j).size <= 8 := by
 rw [<- bI_len, gapB_I]
 exact (gap_len j).1
def Strs (w : World) (q : Option Addr) (Ws : List ByteArray) : Prop := ∀ i x, Ws[i]? = some x -> ∃ b o, q = some ⟨b, o, none⟩ /\ w.cell? ⟨b, o + i, none⟩ = some (.string x)
theorem Strs.on {w w' : World} {q : Option Addr} {Ws : List ByteArray} (h : Strs w q Ws) (hb : Below w.heap.size w w') : Strs w' q Ws := fun i x hx => by
 obtain ⟨b, o, hq, hc⟩ := h i x hx
 exact ⟨b, o, hq, (hb.cell (p := ⟨b, o + i, none⟩) (World.block_lt_of_cell? w _ hc)).trans hc⟩
theorem EvL.on {w w' : World} {p : Option Addr} {ev : List Ev} (h : EvL w p ev) (hb : Below w.heap.size w w') : EvL w' p ev := fun j x hx => by
 obtain ⟨g, hp, a0, a1, a2, a3, a4, a5⟩ := h j x hx
 have hl : g < w.heap.size := World.block_lt_of_cell? w _ a0
 have C : ∀ o, w'.cell? ⟨g, o, none⟩ = w.cell? ⟨g, o, none⟩ := fun o => hb.cell (p := ⟨g, o, none⟩) hl
 exact ⟨g, hp, by rw [C]; exact a0, by rw [C]; exact a1, by rw [C]; exact a2, by rw [C]; exact a3, by rw [C]; exact a4, by rw [C]; exact a5⟩
theorem same_events {w : World} {p q : Option Addr} {ev : List Ev} (c d : Nat) (hn : ev.length <= 1048576) (h1 : EvL w p ev) (h2 : EvL w q ev) :
  Calls Tryz.prog 15 #[.slice p ev.length c, .slice q ev.length d] w fun e w' => e = .returned (.bool true) /\ ∃ k, w' = w.drewN k := by
 have H1 : Hid (EvL w p ev) := h1
 have H2 : Hid (EvL w q ev) := h2
 clear h1 h2
 go_enter Tryz.func15, Tryz.ntmps15
 go_wp2
 go_loopw [5] (fun i wr => ∃ (k m : Nat), k <= ev.length /\ i = .int .i64 (k : Nat) /\ wr = w.drewN m) (fun i _ => ev.length - (intOf i).toNat)
 case atStart => exact ⟨0, 0, Nat.zero_le _, rfl, rfl⟩
 case round =>
  obtain ⟨k, m, hk, rfl, rfl⟩ := hrel
  by_cases hlt : k < ev.length
  ·obtain ⟨x, hx⟩ : ∃ x, ev[k]? = some x := ⟨_, List.getElem?_eq_getElem hlt⟩
   obtain ⟨g, rfl, a0, a1, a2, a3, a4, a5⟩ := H1.out k x hx
   obtain ⟨g', rfl, b0, b1, b2, b3, b4, b5⟩ := H2.out k x hx
   clear hx H1 H2
   go_wp2
   go_quiet (fail)
   go_wp2
   go_roundw
   case rel => exact ⟨k + 1, _, by omega, by go_num, rfl⟩
   case measure => simp [intOf]; omega
  ·obtain rfl : k = ev.length := by omega
   clear H1 H2
   go_wp2
   go_ret
   exact ⟨rfl, _, rfl⟩
def wgs (Ws : List ByteArray) (Gs : List Int) : List Wg := List.zipWith (fun x g => (bI x, gix g)) Ws Gs
theorem wgs_len {Ws : List ByteArray} {Gs : List Int} (h : Ws.length <= Gs.length) : (wgs Ws Gs).length = Ws.length := by
 unfold wgs
 rw [List.length_zipWith]
 omega
theorem wgs_at {Ws : List ByteArray} {Gs : List Int} {k : Nat} {x : ByteArray} {g : Int} (h1 : Ws[k]? = some x) (h2 : Gs[k]? = some g) : (wgs Ws Gs).getD k ([], 0) = (bI x, gix g) := by
 unfold wgs
 rw [List.getD_eq_getElem?_getD, List.getElem?_zipWith, h1, h2]
 rfl
def WOk (x : ByteArray) : Prop := 0 < x.size /\ x.size <= 40 /\ ∀ c, c ∈ bI x -> Ltr c
def wE (x : ByteArray) : Ev := ⟨7, x, ⟨#[]⟩, ⟨#[]⟩, 1, false⟩
def tabB : Array Value := #[.string ⟨#[]⟩, .string ⟨#[32]⟩, .string ⟨#[10, 32]⟩, .string ⟨#[32, 35, 32, 99, 10, 10, 32, 32]⟩, .string ⟨#[9]⟩]
theorem tab_at {j : Nat} (h : j < 5) : tabB[j]? = some (.string (gapB j)) := by
 match j, h with
 | 0, _ => rfl
 | 1, _ => rfl
 | 2, _ => rfl
 | 3, _ => rfl
 | 4, _ => rfl
theorem str_pos {x : ByteArray} (h : x.toList.isEmpty = false) : 0 < x.size := by
 rcases Nat.eq_zero_or_pos x.size with h0 | h0
 ·exfalso
  obtain ⟨d⟩ := x
  have : d = #[] := Array.eq_empty_of_size_eq_zero h0
  subst this
  have e : (⟨#[]⟩ : ByteArray).toList = [] := by
   rw [ByteArray.toList, ByteArray.toList.loop, if_neg (by decide)]
   rfl
  rw [e] at h
  cases h
 ·exact h0
theorem own_one {WT : World} {T : Nat} (h : WT.heap.size = T + 1) (x : Ev) : (WT.alloc (.cells x.c.toArray 50)).ownsRow (T + 1) 50 6 (.slice (some ⟨T + 1, 0, none⟩) 1 1) 1 (flE [x]) := by
 have hx : flE [x] = x.c := by simp [flE]
 rw [hx]
 refine ⟨rfl, .inr ⟨T + 1, 1, x.c.toArray, rfl, Nat.le_refl _, ?_, Nat.le_refl _, by unfold maxLen; omega, rfl, rfl⟩⟩
 rw [<- h]
 exact World.alloc_heap_new WT _
theorem push_below {WT wo w3 : World} {T n : Nat} {v : Value} {xs : List Value} {o : Obj} (hT : T + 1 <= WT.heap.size) (hb : Below (T + 1) WT wo) (ho : wo.ownsRow (T + 1) 50 6 v n xs) (hg : (wo.alloc o).grownBy w3 v.ownBlock) : Below (T + 1) WT w3 := by
 have hs := hb.size
 refine ⟨hg.os.trans hb.os, hg.tape.trans hb.tape, hg.output.trans hb.output, ?_, fun k hk => ?_⟩
 ·have h1 := hg.size
  simp at h1
  omega
 ·have hne : some k ≠ v.ownBlock := fun e => by
   obtain ⟨-, ⟨rfl, -⟩ | ⟨g, cap, cur, rfl, hge, -⟩⟩ := ho
   ·cases e
   ·have e : some k = some g := e
    have := Option.some.inj e
    omega
  rw [hg.block k (by simp; omega) hne, Below.heap_alloc wo o k (by omega), hb.block k hk]
theorem Lines_lst (s : ByteArray) {t : List Int} (h : bI s = t) (hs : s.size <= 2000) (hA : Asc t) (hB : t.any P3.badP = false) (w : World) : Calls Tryz.prog 16 #[.string s] w fun e w' => ∃ p n c, e = .returned (.slice p n c) /\ Got w' p n t /\ Below w.heap.size w w' := by
 subst h
 refine (Lines_any s (by omega) hA hB w).mono ?_
 rintro e w' ⟨p, M, c, rfl, hls, hmp, -, -, hb⟩
 exact ⟨p, M.length, c, rfl, ⟨M, rfl, hls, hmp⟩, hb⟩
theorem row_at_is {w : World} {base g n cap : Nat} {ev : List Ev} (hn : n = ev.length) (h : w.ownsRow base 50 6 (.slice (some ⟨g, 0, none⟩) n cap) n (flE ev)) : EvL w (some ⟨g, 0, none⟩) ev := by
 subst hn
 obtain ⟨p, c, e, h⟩ := row_evl h
 injection e with e1 e2 e3
 rw [e1]
 exact h
theorem byte_at {x : ByteArray} {n : Nat} (h : n < x.size) : iAt (bI x) n = (x[n].toNat : Int) := by
 obtain ⟨d⟩ := x
 have h' : n < d.size := h
 unfold iAt bI
 simp [h']
 rfl
theorem gap_num (g : Int) : (bits .and .i64 g 1023).tmod 5 = ((gix g : Nat) : Int) := by
 rw [and1023]
 unfold gix
 rw [Int.tmod_eq_emod_of_nonneg (by omega)]
 omega
theorem tab_cell {WT wo : World} {T j : Nat} (h : WT.heap[T]? = some (.cells tabB 9)) (hb : Below (T + 1) WT wo) (hj : j < 5) : wo.cell? ⟨T, j, none⟩ = some (.string (gapB j)) := by
 have hh := (hb.block T (by omega)).trans h
 have := tab_at hj
 show (match wo.heap[T]? with | some (.cells c _ _) => c[j]? | _ => none) = _
 rw [hh]
 exact this
theorem all_ltr {x : ByteArray} (h : ∀ i, i < x.size -> Ltr (iAt (bI x) i)) : ∀ c, c ∈ bI x -> Ltr c := fun c hc => by
 obtain ⟨i, hi, rfl⟩ := List.getElem_of_mem hc
 have := h i (by rw [bI_len] at hi; exact hi)
 rw [show iAt (bI x) i = (bI x)[i] by simp [iAt, hi]] at this
 exact this
theorem take_ok {Ws : List ByteArray} {k : Nat} {x : ByteArray} (hW : ∀ x, x ∈ Ws.take k -> WOk x) (hx : Ws[k]? = some x) (ho : WOk x) : ∀ x, x ∈ Ws.take (k + 1) -> WOk x := fun y hy => by
 rw [List.take_add_one, hx] at hy
 rcases List.mem_append.1 hy with hy | hy
 ·exact hW y hy
 ·simp at hy
  rw [hy]
  exact ho
theorem take_ev {Ws : List ByteArray} {k : Nat} {x : ByteArray} (hx : Ws[k]? = some x) (b : Ev) : flE (b :: (Ws.take k).map wE) ++ (wE x).c = flE (b :: (Ws.take (k + 1)).map wE) := by
 rw [List.take_add_one, hx]
 simp [flE, flE_app]
theorem pref_next {Ws : List ByteArray} {Gs : List Int} {xs : List Wg} (hxs : wgs Ws Gs = xs) (hxl : xs.length = Ws.length) {k : Nat} {x : ByteArray} (hx : Ws[k]? = some x) (hk : k < Gs.length) (m tl : Bool) :
  pref m tl xs (k + 1) = pref m tl xs k ++ (gapI (gix (iAt Gs k)) ++ (bI x ++ (if (decide (k + 1 < Ws.length) || tl) = true then gapI (gix (iAt Gs k)) ++ (if (m && decide (k % 2 = 0)) = true then [58, 32] else [44]) else []))) := by
 rw [pref_succ, <- hxs, wgs_at hx (g := iAt Gs k) (by unfold iAt; simp [hk]), hxs, hxl]
 rfl
theorem xs_ok {Ws : List ByteArray} {Gs : List Int} (hW : ∀ x, x ∈ Ws -> WOk x) : ∀ x, x ∈ wgs Ws Gs -> WgOk x /\ x.1.length <= 40 := fun y hy => by
 unfold wgs at hy
 obtain ⟨i, hi, rfl⟩ := List.getElem_of_mem hy
 rw [List.length_zipWith] at hi
 rw [List.getElem_zipWith]
 obtain ⟨h1, h2, h3⟩ := hW Ws[i] (List.getElem_mem _)
 exact ⟨⟨by rw [bI_len]; exact h1, h3⟩, by rw [bI_len]; exact h2⟩
theorem xs_ev : ∀ (Ws : List ByteArray) (Gs : List Int), Ws.length <= Gs.length -> (∀ x, x ∈ Ws -> WOk x) -> (wgs Ws Gs).map (fun x => scE x.1) = Ws.map wE
 | [], Gs, _, _ => rfl
 | x :: Ws, [], h, _ => by simp at h
 | x :: Ws, g :: Gs, h, hW => by
  have ih := xs_ev Ws Gs (by simpa using h) (fun y hy => hW y (by simp [hy]))
  show scE (bI x) :: (wgs Ws Gs).map _ = wE x :: Ws.map wE
  rw [ih]
  unfold scE wE
  rw [text_word x (hW x (by simp)).2.2]
end Go.Proofs.YtipbhdhiklmieaaGreatDoor
