/- add, where the line before does not go on: what the draft is then. -/
import Derived.Test.YtipbhdhiklmieaaGreatDoorZAX
set_option linter.all false
set_option maxRecDepth 100000
set_option maxHeartbeats 4000000
namespace Go.Proofs.YtipbhdhiklmieaaGreatDoor.P7
open P8
open Go.RowKit Go.Shelf
attribute [local go_sem] Oper.semAt_some
end Go.Proofs.YtipbhdhiklmieaaGreatDoor.P7
namespace Go.Proofs.YtipbhdhiklmieaaGreatDoor.P7
open P8
open Go.RowKit Go.Shelf
structure Rdi (n0 D : Nat) (w : World) (ls : List (List Int)) (k : Nat) (W : World) : Prop where
 dr : ∃ vl vc vm R', Dr n0 D (fun _ => False) W vl vc vm R' ((siAt ls k).C.map drI) (siAt ls k).o (hards ((siAt ls k).L.flatten ++ (siAt ls k).C)) /\ R'.map (·.t) = (siAt ls k).L.map (·.map drI)
 below : Below n0 w W
 ok : ∀ j, j < k -> flAt ls j = 0
theorem add_items {n0 D : Nat} {X : Nat -> Prop} {R : List Row} {s : Si} {t : List Int} {last : Bool} {e : Ending} {w' : World} (hR : R.map (·.t) = s.L.map (·.map drI)) (h : AddPost n0 D X R (s.C.map drI) (hards (s.L.flatten ++ s.C)) (lnT s.o t) last e w') :
  (flP last 0 (lnT s.o t) ≠ 0 /\ e = .returned (.int .i64 (flP last 0 (lnT s.o t) : Nat))) \/
  (flP last 0 (lnT s.o t) = 0 /\ e = .returned (.int .i64 0) /\ ∃ vl vc vm R', Dr n0 D X w' vl vc vm R' ((siNext s t last).C.map drI) (siNext s t last).o (hards ((siNext s t last).L.flatten ++ (siNext s t last).C)) /\ R'.map (·.t) = (siNext s t last).L.map (·.map drI)) := by
 unfold AddPost at h
 rw [faultOf_flP] at h
 rcases h with ⟨h1, h2⟩ | ⟨h1, h2, vl, vc, vm, R', hd, hr⟩
 ·exact .inl ⟨h1, h2⟩
 ·refine .inr ⟨h1, h2, vl, vc, vm, R', ?_⟩
  rw [dsAt_fold, List.take_length] at hd hr
  obtain ⟨i1, i2, i3⟩ := ds_items last (lnT s.o t) (lnT s.o t) 0 0 ⟨s.C.map drI, hards (s.L.flatten ++ s.C), false, 0⟩ (by simp) (.inl ⟨rfl, Nat.le_refl _⟩) h1
  rw [i1, i2, i3] at hd
  rw [i1, i3] at hr
  simp only [Nat.sub_self, List.take_zero, List.append_nil] at hd hr
  unfold siNext
  cases ho : opnI false (itP last 0 (lnT s.o t)) with
  | true =>
   rw [ho] at hd hr
   simp only [if_true] at hd hr |-
   refine ⟨?_, by rw [hr, hR]⟩
   rw [<- List.append_assoc, hards_app, List.map_append]
   exact hd
  | false =>
   rw [ho] at hd hr
   simp only [Bool.false_eq_true, if_false] at hd hr |-
   refine ⟨?_, by rw [hr, hR]; simp⟩
   simp only [List.map_nil, List.append_nil, List.flatten_append, List.flatten_cons, List.flatten_nil]
   rw [<- List.append_assoc, hards_app]
   exact hd
theorem lAt_row {R : List Row} {k : Nat} {r : Row} (h : R[k]? = some r) : lAt (R.map (·.t)) k = r.t := by simp [lAt, h]
theorem add_any {n0 D : Nat} {w W : World} {R : List Row} {k : Nat} {r : Row} (hr : R[k]? = some r) (hI : Rdi n0 D w (R.map (·.t)) k W) (h0n : 0 < n0) (hc : r.t.length <= r.c) (hm : r.c <= maxLen) (hq : ∀ a, r.q = some a -> 0 < r.t.length -> a.block < n0) (hIs : Is w r.q r.t) (hT : Tab w) (hn : R.length <= 100000) (ht : totK (R.map (·.t)) R.length <= 1048576) :
  Calls Tryz.prog 152 #[.pointer (some ⟨D, 0, none⟩), .slice r.q r.t.length r.c, .bool (decide (k + 1 = R.length))] W fun e w' =>
   (flAt (R.map (·.t)) k ≠ 0 /\ e = .returned (.int .i64 (flAt (R.map (·.t)) k : Nat)) /\ Below n0 w w') \/ (e = .returned (.int .i64 0) /\ Rdi n0 D w (R.map (·.t)) (k + 1) w') := by
 obtain ⟨⟨vl, vc, vm, R', hd, hR⟩, hb, hok⟩ := hI
 have hk : k < R.length := (List.getElem?_eq_some_iff.1 hr).1
 obtain ⟨z1, z2, z3, z4, z5⟩ := si_size (R.map (·.t)) k
 have hl := lAt_row hr
 have tk := totK_mono (R.map (·.t)) (show k + 1 <= R.length by omega)
 rw [totK, hl] at tk
 have hIW := hIs.below hq hb
 have hTW := hT.below hb h0n
 have l1 : R'.length <= 1048576 := by
  have := congrArg List.length hR
  simp at this
  omega
 have l2 := hards_len ((siAt (R.map (·.t)) k).L.flatten ++ (siAt (R.map (·.t)) k).C)
 have l3 : ((siAt (R.map (·.t)) k).C.map drI).length <= totK (R.map (·.t)) k := by rw [List.length_append] at z1; rw [List.length_map]; omega
 have hlast : decide (k + 1 = (R.map (·.t)).length) = decide (k + 1 = R.length) := by simp
 have fin : ∀ (e : Ending) (w' : World), Below n0 W w' /\ AddPost n0 D (fun _ => False) R' ((siAt (R.map (·.t)) k).C.map drI) (hards ((siAt (R.map (·.t)) k).L.flatten ++ (siAt (R.map (·.t)) k).C)) (lnT (siAt (R.map (·.t)) k).o r.t) (decide (k + 1 = R.length)) e w' ->
   (flAt (R.map (·.t)) k ≠ 0 /\ e = .returned (.int .i64 (flAt (R.map (·.t)) k : Nat)) /\ Below n0 w w') \/ (e = .returned (.int .i64 0) /\ Rdi n0 D w (R.map (·.t)) (k + 1) w') := by
  rintro e w' ⟨hb', hp⟩
  have := add_items hR hp
  have hfl : flAt (R.map (·.t)) k = flP (decide (k + 1 = R.length)) 0 (lnT (siAt (R.map (·.t)) k).o r.t) := by unfold flAt; rw [hl, hlast]
  have hsi : siAt (R.map (·.t)) (k + 1) = siNext (siAt (R.map (·.t)) k) r.t (decide (k + 1 = R.length)) := by rw [siAt, hl, hlast]
  rw [<- hfl, <- hsi] at this
  rcases this with ⟨h1, h2⟩ | ⟨h1, h2, h3⟩
  ·exact .inl ⟨h1, h2, hb.trans hb'⟩
  ·refine .inr ⟨h2, h3, hb.trans hb', fun j hj => ?_⟩
   by_cases e : j = k
   ·subst e; exact h1
   ·exact hok j (by omega)
 cases ho : (siAt (R.map (·.t)) k).o with
 | true =>
  rw [ho] at hd fin
  exact ((callsIn_wide (n := 9)).1 (add_in true 9 n0 D _ W vl vc vm R' _ _ r.q r.t r.c _ hd h0n hc hm hq hIW hTW l1 (by omega) (by omega))).mono fin
 | false =>
  rw [ho] at hd fin
  exact ((callsIn_wide (n := 9)).1 (add_in false 9 n0 D _ W vl vc vm R' _ _ r.q r.t r.c _ hd h0n hc hm hq hIW hTW l1 (by omega) (by omega))).mono fin
theorem flowT_items {R' : List Row} {L : List (List Item)} (h : R'.map (·.t) = L.map (·.map drI)) : flowT R' = (flI L L.length).1.map drI := by
 have hlen : R'.length = L.length := by have := congrArg List.length h; simpa using this
 rw [flowT_flS, hlen]
 exact (flS_items h L.length).1
theorem text_end {n0 D : Nat} {w W : World} {ls : List (List Int)} (hI : Rdi n0 D w ls ls.length W) (hn : ls.length <= 100000) (ht : totK ls ls.length <= 1048576) :
  readE ls = 0 /\ Calls Tryz.prog 153 #[.pointer (some ⟨D, 0, none⟩)] W fun e w' => ∃ v, e = .returned v /\ Owns w' n0 v (readT ls) /\ Below n0 w w' := by
 obtain ⟨⟨vl, vc, vm, R', hd, hR⟩, hb, hok⟩ := hI
 obtain ⟨z1, z2, z3, z4, z5⟩ := si_size ls ls.length
 obtain ⟨o1, o2⟩ := si_last ls hok
 rw [List.length_append] at z1
 have hlen : R'.length = (siAt ls ls.length).L.length := by have := congrArg List.length hR; simpa using this
 have hS : Sized R' := by
  refine ⟨by omega, fun i => ?_⟩
  unfold tAt
  cases hr : R'[i]? with
  | none => simp
  | some r =>
   have hm : r.t ∈ R'.map (·.t) := List.mem_map.2 ⟨r, List.mem_of_getElem? hr, rfl⟩
   rw [hR] at hm
   obtain ⟨u, hu, e⟩ := List.mem_map.1 hm
   have := flat_le _ _ hu
   show r.t.length <= _
   rw [<- e, List.length_map]
   omega
 have hfl := flowT_items hR
 have hfi := okI_fl z3 (siAt ls ls.length).L.length
 have hh := hards_fl (siAt ls ls.length).L (siAt ls ls.length).L.length (Nat.le_refl _)
 rw [List.take_length] at hh
 have hlen2 : (flowT R').length <= 2199025352704 := by rw [flowT_flS]; exact flS_len R' hS R'.length (Nat.le_refl _)
 have hcnt : (flowT R').count 92 <= (hards ((siAt ls ls.length).L.flatten ++ (siAt ls ls.length).C)).length := by
  rw [hfl, count_items _ hfi, hh, o2, List.append_nil]
  exact Nat.le_refl _
 refine ⟨readE_none hok, (text_any n0 D _ W vl vc vm R' _ _ _ hd hS hlen2 hcnt).mono ?_⟩
 rintro e w' ⟨v, rfl, ho, hb'⟩
 refine ⟨v, rfl, ?_, hb.trans (hb'.mono hd.size)⟩
 have : (fillP (hards ((siAt ls ls.length).L.flatten ++ (siAt ls ls.length).C)) (flowT R')).1 = readT ls := by
  rw [o2, List.append_nil, <- hh, hfl, fillP_items _ hfi]
  rfl
 rw [this] at ho
 exact ownsRow_mono ho hd.size
theorem Read_any (p : Option Addr) (R : List Row) (cap : Nat) (w : World) (hM : Mt w p R) (hn : R.length <= 100000) (ht : totK (R.map (·.t)) R.length <= 1048576) (hT : Tab w) :
  Calls Tryz.prog 108 #[.slice p R.length cap] w fun e w' => Below w.heap.size w w' /\ ((readE (R.map (·.t)) ≠ 0 /\ e = .returned (.tuple #[.slice none 0 0, .int .i64 (readE (R.map (·.t)) : Nat)])) \/ (readE (R.map (·.t)) = 0 /\ ∃ v, e = .returned (.tuple #[v, .int .i64 0]) /\ Owns w' w.heap.size v (readT (R.map (·.t))))) := by
 have h0n := hT.lt
 have hI0 : Rdi w.heap.size w.heap.size w (R.map (·.t)) 0 (w.alloc (.cells #[.slice none 0 0, .slice none 0 0, .bool false, .slice none 0 0] 186)) := by
  refine ⟨⟨.slice none 0 0, .slice none 0 0, .slice none 0 0, [], ⟨World.alloc_heap_new w _, Nat.le_refl _, World.ownsRow_nil _ _ 41 1, World.ownsRow_nil _ _ 3 1, World.ownsRow_nil _ _ 3 1, (fun g e => by cases e), (fun r hr => by cases hr), (fun r hr => by cases hr), (fun b h => h.elim), by simp⟩, rfl⟩, (Below.refl _ w).alloc (Nat.le_refl _) _, fun j hj => by omega⟩
 have AD := fun k r hr W h => add_any (n0 := w.heap.size) (D := w.heap.size) (k := k) (r := r) (W := W) hr h h0n (hM.1 k r hr).1 (hM.1 k r hr).2.1 (hM.1 k r hr).2.2.lt (hM.1 k r hr).2.2 hT hn ht
 have TX := fun W h => text_end (n0 := w.heap.size) (D := w.heap.size) (w := w) (W := W) (ls := R.map (·.t)) h (by simpa using hn) (by simpa using ht)
 rw [List.length_map] at TX
 have RF := fun k (hk : k < R.length) h hf => readE_first (ls := R.map (·.t)) (k := k) (by simpa using hk) h hf
 obtain ⟨ls, hls⟩ : ∃ ls, R.map (·.t) = ls := ⟨_, rfl⟩
 rw [hls] at hI0 AD TX RF |-
 have hn2 : (R.length : Int) <= 100000 := by omega
 clear hls ht hT
 go_enter Tryz.func108, Tryz.ntmps108
 go_wp2
 generalize w.alloc (.cells #[.slice none 0 0, .slice none 0 0, .bool false, .slice none 0 0] 186) = W0 at hI0
 go_loopw [10] (fun iv wr => ∃ (k : Nat), k <= R.length /\ iv = .int .i64 k /\ Rdi w.heap.size w.heap.size w ls k wr) (fun iv _ => R.length - (intOf iv).toNat)
 case atStart => exact ⟨0, Nat.zero_le _, rfl, hI0⟩
 case round =>
  obtain ⟨k, hk, rfl, hI⟩ := hrel
  by_cases hlt : k < R.length
  ·have hli : (k : Int) < R.length := by omega
   obtain ⟨r, hr⟩ : ∃ r, R[k]? = some r := ⟨_, List.getElem?_eq_getElem hlt⟩
   obtain ⟨b, o, rfl, hcell⟩ := (hM.on hI.below).at (by omega)
   have c0 := hcell k r hr
   have A := AD k r hr wr hI
   have hbl : ((k : Int) == (R.length : Int) - 1) = decide (k + 1 = R.length) := by
    by_cases h : k + 1 = R.length
    ·rw [decide_eq_true h]; simp; omega
    ·rw [decide_eq_false h]; simp; omega
   have hok := hI.ok
   have HR : Hid (flAt ls k ≠ 0 -> readE ls = flAt ls k) := RF k hlt hok
   rw [<- hbl] at A
   obtain ⟨rq, rt, rc⟩ := r
   dsimp only at c0 A
   clear AD TX RF hcell hM hI0 hI hbl hok hr
   go_wp2_with (first | (go_at_call 152; refine A.mono ?_; rintro e w' (⟨h1, rfl, h3⟩ | ⟨rfl, h3⟩)))
   ·have h1' : ¬ ((flAt ls k : Nat) : Int) = 0 := by omega
    have h1b : (((flAt ls k : Nat) : Int) == 0) = false := by simpa using h1
    rw [HR.out h1]
    go_wp2
    go_ret2
    exact ⟨h3, .inl ⟨h1, rfl⟩⟩
   ·go_wp2
    go_roundw
    case rel => exact ⟨k + 1, by omega, by go_num, h3⟩
    case measure => simp [intOf]; omega
  ·obtain rfl : k = R.length := by omega
   obtain ⟨hE, TT⟩ := TX wr hI
   clear AD TX RF hM hI0
   go_wp2_with (first | (go_at_call 153; refine TT.mono ?_; rintro e w' ⟨v, rfl, ho, hb⟩))
   go_ret2
   exact ⟨hb, .inr ⟨hE, v, rfl, ho⟩⟩
def endP : Nat -> Nat -> List Int -> Option Nat
 | _, _, [] => none
 | p, k + 1, _ :: r => endP (p + 1) k r
 | p, 0, c :: r => if c = 34 then some p else if c = 92 then endP (p + 1) 1 r else endP (p + 1) 0 r
theorem endP_one (p : Nat) (l : List Int) : endP p 1 l = endP (p + 1) 0 (l.drop 1) := by cases l <;> simp [endP]
theorem endP_quote {t : List Int} {k : Nat} (h : k < t.length) (hc : iAt t k = 34) : endP k 0 (t.drop k) = some k := by rw [drop_at h, endP, if_pos hc]
theorem endP_slash {t : List Int} {k : Nat} (h : k < t.length) (hc : iAt t k = 92) : endP k 0 (t.drop k) = endP (k + 2) 0 (t.drop (k + 2)) := by
 rw [drop_at h, endP, if_neg (by omega), if_pos hc, endP_one, List.drop_drop]
theorem endP_other {t : List Int} {k : Nat} (h : k < t.length) (h1 : iAt t k ≠ 34) (h2 : iAt t k ≠ 92) : endP k 0 (t.drop k) = endP (k + 1) 0 (t.drop (k + 1)) := by
 rw [drop_at h, endP, if_neg h1, if_neg h2]
theorem End_any (q : Option Addr) (t : List Int) (c : Nat) (w : World) (hn : t.length <= 1099511627776) (hI : Is w q t) :
  Calls Tryz.prog 106 #[.slice q t.length c] w fun e w' => e = .returned (endV (endP 0 0 t)) /\ w' = w := by
 obtain ⟨E, hE⟩ : ∃ E, endP 0 0 t = E := ⟨_, rfl⟩
 rw [hE]
 have HE : Hid (endP 0 0 (t.drop 0) = E) := hE
 have hn2 : (t.length : Int) <= 1099511627776 := by omega
 clear hE
 go_enter Tryz.func106, Tryz.ntmps106
 go_wp2
 go_loop [4] (fun iv => ∃ (k : Nat), k <= t.length + 1 /\ iv = .int .i64 k /\ Hid (endP k 0 (t.drop k) = E)) (fun iv => t.length + 1 - (intOf iv).toNat)
 case atStart => exact ⟨0, by omega, rfl, HE⟩
 case round =>
  obtain ⟨k, hk, rfl, Hs⟩ := hrel
  by_cases hlt : k < t.length
  ·have hli : (k : Int) < t.length := by omega
   obtain ⟨b, o, rfl, hu⟩ := hI.at (by omega)
   have c0 := hu k hlt
   by_cases h1 : iAt t k = 34
   ·have hE : E = some k := by rw [<- Hs.out, endP_quote hlt h1]
    rw [h1] at c0
    subst hE
    clear hu
    go_wp2
    go_ret2
    exact ⟨rfl, rfl⟩
   ·by_cases h2 : iAt t k = 92
    ·have Hs' : Hid (endP (k + 2) 0 (t.drop (k + 2)) = E) := by show _ = _; rw [<- endP_slash hlt h2]; exact Hs.out
     rw [h2] at c0
     clear hu
     go_wp2
     go_round
     case rel => exact ⟨k + 2, by omega, by go_num, Hs'⟩
     case measure => simp [intOf]; omega
    ·have Hs' : Hid (endP (k + 1) 0 (t.drop (k + 1)) = E) := by show _ = _; rw [<- endP_other hlt h1 h2]; exact Hs.out
     have h1' : (iAt t k == 34) = false := by simpa using h1
     have h2' : (iAt t k == 92) = false := by simpa using h2
     generalize iAt t k = x at c0 h1 h2 h1' h2'
     clear hu
     go_wp2
     go_round
     case rel => exact ⟨k + 1, by omega, by go_num, Hs'⟩
     case measure => simp [intOf]; omega
  ·have hge : ¬ (k : Int) < t.length := by omega
   have hE : E = none := by
    rw [<- Hs.out, List.drop_eq_nil_of_le (by omega)]
    cases k <;> rfl
   subst hE
   go_wp2
   go_ret2
   exact ⟨rfl, rfl⟩
end Go.Proofs.YtipbhdhiklmieaaGreatDoor.P7
namespace Go.Proofs.YtipbhdhiklmieaaGreatDoor
open Go.RowKit Go.Shelf
open P8 (Row Mt)
def sEndO (t : List Int) : Option Nat := P8.endS (P8.sgP 0 t)
def dEndO (t : List Int) : Option Nat := P7.endP 0 0 t
def pastO (t : List Int) : Nat := P10.run blankP t
theorem past_is (t : List Int) : pastO t = (match t with | [] => 0 | x :: r => if blankP x then pastO r + 1 else 0) := by cases t <;> rfl
theorem dEnd_at (t : List Int) : ∀ p k j, P7.endP p k t = some j -> p <= j /\ j < p + t.length := by
 induction t with
 | nil => intro p k j h; simp [P7.endP] at h
 | cons c r ih =>
  intro p k j h
  cases k with
  | succ k => have := ih _ _ _ (by simpa [P7.endP] using h); simp only [List.length_cons]; omega
  | zero =>
   rw [P7.endP] at h
   simp only [List.length_cons]
   split at h
   ·cases h; omega
   ·split at h
    ·have := ih _ _ _ h; omega
    ·have := ih _ _ _ h; omega
theorem dEnd_lt (t : List Int) (k : Nat) (h : dEndO t = some k) : k < t.length := by have := dEnd_at t 0 0 k h; omega
theorem dEnds : Ends 106 dEndO := fun q t c W hn hI => (P7.End_any q t c W (by omega) hI).mono fun e w' h => by
 obtain ⟨h1, rfl⟩ := h
 refine ⟨h1.trans ?_, Below.refl _ _⟩
 show Ending.returned (endV (dEndO t)) = _
 cases dEndO t <;> rfl
theorem sEnds : Ends 105 sEndO := fun q t c W hn hI => (P8.End_any q t c W (by omega) hI).mono fun e w' h => by
 refine ⟨h.1.trans ?_, h.2⟩
 show Ending.returned (endV (sEndO t)) = _
 cases sEndO t <;> rfl
theorem begs_low (fl : Bool) (q : Option Addr) (t : List Int) (c : Nat) (W : World) (hn : t.length <= 1300) (hI : Is W q t) : Calls Tryz.prog 71 #[.slice q t.length c, .bool fl] W fun e w' => e = .returned (.bool (P9.begP t fl)) /\ Below W.heap.size W w' := P9.Begins_any q t c fl W (by omega) hI
theorem pEnd_low (fl : Bool) (q : Option Addr) (t : List Int) (c : Nat) (W : World) (hn : t.length <= 1300) (hI : Is W q t) : Calls Tryz.prog 117 #[.slice q t.length c, .bool fl] W fun e w' => e = .returned (.int .i64 (P9.endP t fl : Nat)) /\ Below W.heap.size W w' := P9.End_any q t c fl W (by omega) hI
theorem mark_low (x : Ln) (W : World) (hn : x.t.length <= 1300) (h : x.t.length <= x.c /\ x.c <= maxLen /\ Is W x.q x.t) : Calls Tryz.prog 141 #[x.v] W fun en w' => en = .returned (.int .i64 (P10.markP x.lp.n x.lp.t)) /\ Below W.heap.size W w' := P10.marker_any _ x.q x.t x.c W (by omega) h.2.2
theorem bare_low (x : Ln) (W : World) (hn : x.t.length <= 1300) (h : x.t.length <= x.c /\ x.c <= maxLen /\ Is W x.q x.t) : Calls Tryz.prog 157 #[x.v] W fun en w' => en = .returned (.bool (P10.bareP x.lp.t)) /\ Below W.heap.size W w' := P10.bare_any _ x.q x.t x.c W h.1 (by have := h.2.1; unfold maxLen at this; omega) h.2.2
def rowsO (ts : List (List Int)) : List Row := ts.map fun t => ⟨none, t, 0⟩
theorem tAt_rows (R : List Row) (i : Nat) : P8.tAt (rowsO (R.map (·.t))) i = P8.tAt R i := by
 unfold P8.tAt rowsO
 simp only [List.getElem?_map, Option.map_map]
 rfl
theorem flow_rows (R : List Row) : P8.flowT (rowsO (R.map (·.t))) = P8.flowT R := by
 have hl : (rowsO (R.map (·.t))).length = R.length := by simp [rowsO]
 have h1 : P8.trimG (rowsO (R.map (·.t))) = P8.trimG R := by
  funext i
  unfold P8.trimG
  rw [tAt_rows, hl]
 have h2 : P8.tellF (rowsO (R.map (·.t))) = P8.tellF R := by
  funext i
  unfold P8.tellF
  rw [h1, hl]
 unfold P8.flowT
 rw [h1, h2, hl]
end Go.Proofs.YtipbhdhiklmieaaGreatDoor
