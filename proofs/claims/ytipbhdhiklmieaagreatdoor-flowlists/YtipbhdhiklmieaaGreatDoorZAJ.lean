/- A list of lines that is read; fold's trimmed. -/
import Derived.Test.YtipbhdhiklmieaaGreatDoorZAI
import Derived.Test.YtipbhdhiklmieaaGreatDoorZAB
import Derived.Laws.CopyRow
import Derived.Test.YtipbhdhiklmieaaGreatDoorZAH
set_option linter.all false
set_option maxRecDepth 100000
set_option maxHeartbeats 8000000
namespace Go.Proofs.YtipbhdhiklmieaaGreatDoor.P8
open Go.RowKit Go.Shelf
structure Row where
 q : Option Addr
 t : List Int
 c : Nat
def Mt (w : World) (p : Option Addr) (R : List Row) : Prop :=
 (∀ (j : Nat) (r : Row), R[j]? = some r -> r.t.length <= r.c /\ r.c <= maxLen /\ Is w r.q r.t) /\
 (R = [] \/ ∃ b o, p = some ⟨b, o, none⟩ /\ ∀ (j : Nat) (r : Row), R[j]? = some r -> w.cell? ⟨b, o + j, none⟩ = some (.slice r.q r.t.length r.c))
theorem Mt.at {w : World} {p : Option Addr} {R : List Row} (h : Mt w p R) (hl : 0 < R.length) : ∃ b o, p = some ⟨b, o, none⟩ /\ ∀ (j : Nat) (r : Row), R[j]? = some r -> w.cell? ⟨b, o + j, none⟩ = some (.slice r.q r.t.length r.c) := by
 rcases h.2 with rfl | h
 ·simp at hl
 ·exact h
theorem Mt.on {A B : World} {p : Option Addr} {R : List Row} (h : Mt A p R) (hb : Below A.heap.size A B) : Mt B p R := by
 refine ⟨fun j r hr => ⟨(h.1 j r hr).1, (h.1 j r hr).2.1, (h.1 j r hr).2.2.on hb⟩, ?_⟩
 rcases h.2 with e | ⟨b, o, e, hc⟩
 ·exact .inl e
 ·exact .inr ⟨b, o, e, fun j r hr => (hb.cell (p := ⟨b, o + j, none⟩) (World.block_lt_of_cell? A _ (hc j r hr))).trans (hc j r hr)⟩
theorem Mt.lt {w : World} {p : Option Addr} {R : List Row} (h : Mt w p R) : ∀ a, p = some a -> 0 < R.length -> a.block < w.heap.size := by
 intro a e hl
 obtain ⟨b, o, rfl, hc⟩ := h.at hl
 cases e
 exact World.block_lt_of_cell? w ⟨b, o + 0, none⟩ (hc 0 R[0] (by simp [hl]))
def Sub (q : Option Addr) (t : List Int) (q' : Option Addr) (u : List Int) : Prop :=
 u = [] \/ ∃ b o k, q = some ⟨b, o, none⟩ /\ q' = some ⟨b, o + k, none⟩ /\ k + u.length <= t.length /\ u = (t.drop k).take u.length
theorem Sub.is {w : World} {q q' : Option Addr} {t u : List Int} (h : Sub q t q' u) (hI : Is w q t) : Is w q' u := by
 rcases h with rfl | ⟨b, o, k, rfl, rfl, h1, h2⟩
 ·exact .inl rfl
 ·rw [h2]
  exact (hI.drop k).take _
theorem Sub.refl {w : World} {q : Option Addr} {t : List Int} (h : Is w q t) : Sub q t q t := by
 rcases h with rfl | ⟨b, o, rfl, -⟩
 ·exact .inl rfl
 ·exact .inr ⟨b, o, 0, rfl, rfl, by omega, by simp⟩
theorem Sub.block {q q' : Option Addr} {t u : List Int} (h : Sub q t q' u) {n0 : Nat} (hq : ∀ a, q = some a -> 0 < t.length -> a.block < n0) : ∀ a, q' = some a -> 0 < u.length -> a.block < n0 := by
 rcases h with rfl | ⟨b, o, k, rfl, rfl, h1, -⟩
 ·intro a e h; simp at h
 ·intro a e h
  cases e
  have := hq ⟨b, o, none⟩ rfl (by omega)
  exact this
theorem Sub.tail {q q' : Option Addr} {t u : List Int} (h : Sub q t q' u) (c : Nat) (hc : u.length <= c) : Sub q t (if c = 1 then q' else q'.map (·.add 1)) (u.drop 1) := by
 by_cases hl : u.length <= 1
 ·exact .inl (List.drop_eq_nil_of_le hl)
 ·rcases h with rfl | ⟨b, o, k, rfl, rfl, h1, h2⟩
  ·exact .inl (by simp)
  ·rw [if_neg (by omega), Option.map_some, add_plain]
   refine .inr ⟨b, o, k + 1, rfl, by rw [Nat.add_assoc], by rw [List.length_drop]; omega, ?_⟩
   conv => lhs; rw [h2]
   rw [List.drop_take, List.drop_drop, List.length_drop]
theorem Sub.init {q q' : Option Addr} {t u : List Int} (h : Sub q t q' u) (m : Nat) : Sub q t q' (u.take m) := by
 rcases h with rfl | ⟨b, o, k, rfl, rfl, h1, h2⟩
 ·exact .inl (by simp)
 ·refine .inr ⟨b, o, k, rfl, rfl, by rw [List.length_take]; omega, ?_⟩
  conv => lhs; rw [h2]
  rw [List.take_take, List.length_take]
def dropF (u : List Int) : List Int := u.dropWhile blankP
def dropB (u : List Int) : List Int := (u.reverse.dropWhile blankP).reverse
def trimF (front back : Bool) (u : List Int) : List Int :=
 let v := if front then dropF u else u
 if back then dropB v else v
theorem iAt_zero (x : Int) (u : List Int) : iAt (x :: u) 0 = x := rfl
theorem dropF_more {u : List Int} (h : 0 < u.length) (hb : blankP (iAt u 0) = true) : dropF (u.drop 1) = dropF u := by
 cases u with
 | nil => simp at h
 | cons x u =>
  rw [iAt_zero] at hb
  show dropF u = dropF (x :: u)
  unfold dropF
  rw [List.dropWhile_cons_of_pos hb]
theorem dropF_stop {u : List Int} (h : 0 < u.length -> blankP (iAt u 0) = false) : dropF u = u := by
 cases u with
 | nil => rfl
 | cons x u =>
  have hb := h (by simp)
  rw [iAt_zero] at hb
  unfold dropF
  rw [List.dropWhile_cons_of_neg (by simp [hb])]
theorem last_split {u : List Int} (h : 0 < u.length) : u = u.take (u.length - 1) ++ [iAt u (u.length - 1)] := by
 have := take_more (t := u) (j := u.length - 1) (by omega)
 rw [<- this, show u.length - 1 + 1 = u.length by omega, List.take_length]
theorem dropB_more {u : List Int} (h : 0 < u.length) (hb : blankP (iAt u (u.length - 1)) = true) : dropB (u.take (u.length - 1)) = dropB u := by
 conv => rhs; rw [last_split h]
 unfold dropB
 rw [List.reverse_append, List.reverse_singleton, List.singleton_append, List.dropWhile_cons_of_pos hb]
theorem dropB_stop {u : List Int} (h : 0 < u.length -> blankP (iAt u (u.length - 1)) = false) : dropB u = u := by
 by_cases hl : 0 < u.length
 ·have hb := h hl
  have hs := last_split hl
  generalize iAt u (u.length - 1) = x at hb hs
  generalize u.take (u.length - 1) = v at hs
  subst hs
  unfold dropB
  rw [List.reverse_append, List.reverse_singleton, List.singleton_append, List.dropWhile_cons_of_neg (by simp [hb])]
  simp
 ·have : u = [] := List.eq_nil_of_length_eq_zero (by omega)
  subst this
  rfl
def Piece (q0 : Option Addr) (t u : List Int) (e : Ending) : Prop := ∃ (q : Option Addr) (c : Nat), e = .returned (.slice q u.length c) /\ u.length <= c /\ Sub q0 t q u
def slen : Value -> Nat
 | .slice _ n _ => n
 | _ => 0
theorem trimmed_any (p : Option Addr) (R : List Row) (pc i : Nat) (r : Row) (w : World) (hM : Mt w p R) (hr : R[i]? = some r) (hn : R.length <= 1099511627776) :
  Calls Tryz.prog 201 #[.slice p R.length pc, .int .i64 i] w fun e w' => Piece r.q r.t (trimF (decide (0 < i)) (decide (i + 1 < R.length)) r.t) e /\ w' = w := by
 have hi : i < R.length := (List.getElem?_eq_some_iff.1 hr).1
 have hi' : (i : Int) < R.length := by omega
 obtain ⟨b0, o0, rfl, hcell⟩ := hM.at (by omega)
 have c0 := hcell i r hr
 obtain ⟨hc, hm, hI⟩ := hM.1 i r hr
 have hsub := Sub.refl hI
 clear hcell hM
 obtain ⟨T, hT⟩ : ∃ T, trimF (decide (0 < i)) (decide (i + 1 < R.length)) r.t = T := ⟨_, rfl⟩
 rw [hT]
 have HT : Hid (trimF (decide (0 < i)) (decide (i + 1 < R.length)) r.t = T) := hT
 clear hT
 go_enter Tryz.func201, Tryz.ntmps201
 go_wp2
 clear c0
 go_loop [5] (fun v => ∃ (q' : Option Addr) (u : List Int) (c' : Nat), v = .slice q' u.length c' /\ Sub r.q r.t q' u /\ u.length <= c' /\ c' <= maxLen /\ Hid ((if decide (0 < i) then dropF u else u) = (if decide (0 < i) then dropF r.t else r.t))) (fun v => slen v)
 case atStart => exact ⟨r.q, r.t, r.c, rfl, hsub, hc, hm, rfl⟩
 case round =>
  obtain ⟨q', u, c', rfl, hs, hc1, hm1, HD⟩ := hrel
  have hm2 : (c' : Int) <= 9223372036854775807 := by unfold maxLen at hm1; omega
  have hc2 : (u.length : Int) <= c' := by omega
  by_cases hi0 : 0 < i
  ·have hi0' : (0 : Int) < i := by omega
   have HD1 : Hid (dropF u = dropF r.t) := by have := HD.out; simp only [hi0, decide_true, if_true] at this; exact this
   by_cases hl : 0 < u.length
   ·have hl' : (0 : Int) < u.length := by omega
    obtain ⟨b, o, rfl, hu⟩ := (hs.is hI).at hl
    have d0 := hu 0 hl
    rw [Nat.add_zero] at d0
    cases hb : blankP (iAt u 0) with
    | true =>
     have S : ∀ w2, (Instr.slice 41 (.slice (some ⟨b, o, none⟩) u.length c') (some (.int .i64 1)) none none).run Tryz.prog w2 = .ok (.slice (if c' = 1 then (some (⟨b, o, none⟩ : Addr)) else (some (⟨b, o, none⟩ : Addr)).map (·.add 1)) (u.length - 1) (c' - 1)) w2 := slice_from (some ⟨b, o, none⟩) u.length c' 1 (by omega) hc1
     have hs' := hs.tail c' hc1
     have HD' : Hid ((if decide (0 < i) then dropF (u.drop 1) else u.drop 1) = (if decide (0 < i) then dropF r.t else r.t)) := by
      show _ = _
      simp only [hi0, decide_true, if_true]
      rw [dropF_more hl hb]; exact HD1.out
     have BL := blank_any (iAt u 0)
     rw [hb] at BL
     generalize (if c' = 1 then (some (⟨b, o, none⟩ : Addr)) else (some (⟨b, o, none⟩ : Addr)).map (·.add 1)) = q'' at S hs'
     have hlen : (u.drop 1).length = u.length - 1 := by simp
     generalize iAt u 0 = x at d0 BL
     clear hu hb HD HD1
     go_wp2_with (go_at_call 55; refine (BL _).mono ?_; rintro e w' ⟨rfl, rfl⟩)
     go_round
     case rel => exact ⟨q'', u.drop 1, c' - 1, by rw [hlen], hs', by rw [hlen]; omega, by omega, HD'⟩
     case measure => simp [slen]; omega
    | false =>
     have HE1 : Hid (u = (if decide (0 < i) then dropF r.t else r.t)) := by
      show _ = _
      simp only [hi0, decide_true, if_true]
      rw [<- HD1.out, dropF_stop (fun _ => hb)]
     have BL := blank_any (iAt u 0)
     rw [hb] at BL
     generalize iAt u 0 = x at d0 BL
     clear hu hb HD HD1
     go_wp2_with (go_at_call 55; refine (BL _).mono ?_; rintro e w' ⟨rfl, rfl⟩)
     go_loop [5] (fun v => ∃ (q' : Option Addr) (u' : List Int) (c' : Nat), v = .slice q' u'.length c' /\ Sub r.q r.t q' u' /\ u'.length <= c' /\ c' <= maxLen /\ Hid ((if decide (i + 1 < R.length) then dropB u' else u') = T)) (fun v => slen v)
     case atStart =>
      refine ⟨_, u, _, rfl, hs, hc1, hm1, ?_⟩
      show _ = _
      rw [<- HT.out]
      unfold trimF
      rw [<- HE1.out]
     case round =>
      clear HE1 hs hc1 hm1 hm2 hc2
      obtain ⟨q2, u2, c2, rfl, hs, hc1, hm1, HD⟩ := hrel
      have hm2 : (c2 : Int) <= 9223372036854775807 := by unfold maxLen at hm1; omega
      have hc2 : (u2.length : Int) <= c2 := by omega
      by_cases hb0 : i + 1 < R.length
      ·have hb0' : (i : Int) < (R.length : Int) - 1 := by omega
       have HD1 : Hid (dropB u2 = T) := by have := HD.out; simp only [hb0, decide_true, if_true] at this |-; exact this
       by_cases hl2 : 0 < u2.length
       ·have hl2' : (0 : Int) < u2.length := by omega
        obtain ⟨b2, o2, rfl, hu⟩ := (hs.is hI).at hl2
        have d0 := hu (u2.length - 1) (by omega)
        have hj : ((u2.length - 1 : Nat) : Int) = (u2.length : Int) - 1 := by omega
        have hj2 : (0 : Int) <= (u2.length : Int) - 1 := by omega
        have S := slice_to (some ⟨b2, o2, none⟩) u2.length c2 (u2.length - 1) (by omega)
        rw [hj] at S
        cases hb : blankP (iAt u2 (u2.length - 1)) with
        | true =>
         have hs' := hs.init (u2.length - 1)
         have HD' : Hid ((if decide (i + 1 < R.length) then dropB (u2.take (u2.length - 1)) else u2.take (u2.length - 1)) = T) := by
          have e := HD1.out
          show _ = _
          rw [<- e]
          simp only [hb0, decide_true, if_true]
          rw [dropB_more hl2 hb]
         have BL := blank_any (iAt u2 (u2.length - 1))
         rw [hb] at BL
         have hlen : (u2.take (u2.length - 1)).length = u2.length - 1 := by simp
         generalize iAt u2 (u2.length - 1) = x2 at d0 BL
         clear hu hb HD HD1
         go_wp2_with (go_at_call 55; refine (BL _).mono ?_; rintro e w' ⟨rfl, rfl⟩)
         go_round
         case rel => exact ⟨_, u2.take (u2.length - 1), c2, by rw [hlen], hs', by rw [hlen]; omega, hm1, HD'⟩
         case measure => simp [slen]; omega
        | false =>
         have HE2 : Hid (u2 = T) := by
          show _ = _
          rw [<- HD1.out, dropB_stop (fun _ => hb)]
         have BL := blank_any (iAt u2 (u2.length - 1))
         rw [hb] at BL
         generalize iAt u2 (u2.length - 1) = x2 at d0 BL
         clear hu hb HD HD1
         go_wp2_with (go_at_call 55; refine (BL _).mono ?_; rintro e w' ⟨rfl, rfl⟩)
         go_ret
         refine ⟨?_, rfl⟩
         rw [<- HE2.out]
         exact ⟨_, _, rfl, hc1, hs⟩
       ·have hl3 : u2.length = 0 := by omega
        have HE2 : Hid (u2 = T) := by
         show _ = _
         rw [<- HD1.out, dropB_stop (fun h => absurd h hl2)]
        clear HD HD1
        obtain rfl : u2 = [] := List.eq_nil_of_length_eq_zero hl3
        go_wp2
        go_ret
        refine ⟨?_, rfl⟩
        rw [<- HE2.out]
        exact ⟨_, _, rfl, hc1, hs⟩
      ·have hb0' : ¬ (i : Int) < (R.length : Int) - 1 := by omega
       have HE2 : Hid (u2 = T) := by
        have := HD.out; simp only [hb0, decide_false, Bool.false_eq_true, if_false] at this |-; exact this
       clear HD
       go_wp2
       go_ret
       refine ⟨?_, rfl⟩
       rw [<- HE2.out]
       exact ⟨_, _, rfl, hc1, hs⟩
   ·have hl' : u.length = 0 := by omega
    have HE1 : Hid (u = (if decide (0 < i) then dropF r.t else r.t)) := by
     show _ = _
     simp only [hi0, decide_true, if_true]
     rw [<- HD1.out, dropF_stop (fun h => absurd h hl)]
    clear HD HD1
    obtain rfl : u = [] := List.eq_nil_of_length_eq_zero hl'
    go_wp2
    go_loop [5] (fun v => ∃ (q' : Option Addr) (u' : List Int) (c' : Nat), v = .slice q' u'.length c' /\ Sub r.q r.t q' u' /\ u'.length <= c' /\ c' <= maxLen /\ Hid ((if decide (i + 1 < R.length) then dropB u' else u') = T)) (fun v => slen v)
    case atStart =>
     refine ⟨_, [], _, rfl, hs, hc1, hm1, ?_⟩
     show _ = _
     rw [<- HT.out]
     unfold trimF
     rw [<- HE1.out]
    case round =>
     clear HE1 hs hc1 hm1 hm2 hc2
     obtain ⟨q2, u2, c2, rfl, hs, hc1, hm1, HD⟩ := hrel
     have hm2 : (c2 : Int) <= 9223372036854775807 := by unfold maxLen at hm1; omega
     have hc2 : (u2.length : Int) <= c2 := by omega
     by_cases hb0 : i + 1 < R.length
     ·have hb0' : (i : Int) < (R.length : Int) - 1 := by omega
      have HD1 : Hid (dropB u2 = T) := by have := HD.out; simp only [hb0, decide_true, if_true] at this |-; exact this
      by_cases hl2 : 0 < u2.length
      ·have hl2' : (0 : Int) < u2.length := by omega
       obtain ⟨b2, o2, rfl, hu⟩ := (hs.is hI).at hl2
       have d0 := hu (u2.length - 1) (by omega)
       have hj : ((u2.length - 1 : Nat) : Int) = (u2.length : Int) - 1 := by omega
       have hj2 : (0 : Int) <= (u2.length : Int) - 1 := by omega
       have S := slice_to (some ⟨b2, o2, none⟩) u2.length c2 (u2.length - 1) (by omega)
       rw [hj] at S
       cases hb : blankP (iAt u2 (u2.length - 1)) with
       | true =>
        have hs' := hs.init (u2.length - 1)
        have HD' : Hid ((if decide (i + 1 < R.length) then dropB (u2.take (u2.length - 1)) else u2.take (u2.length - 1)) = T) := by
         have e := HD1.out
         show _ = _
         rw [<- e]
         simp only [hb0, decide_true, if_true]
         rw [dropB_more hl2 hb]
        have BL := blank_any (iAt u2 (u2.length - 1))
        rw [hb] at BL
        have hlen : (u2.take (u2.length - 1)).length = u2.length - 1 := by simp
        generalize iAt u2 (u2.length - 1) = x2 at d0 BL
        clear hu hb HD HD1
        go_wp2_with (go_at_call 55; refine (BL _).mono ?_; rintro e w' ⟨rfl, rfl⟩)
        go_round
        case rel => exact ⟨_, u2.take (u2.length - 1), c2, by rw [hlen], hs', by rw [hlen]; omega, hm1, HD'⟩
        case measure => simp [slen]; omega
       | false =>
        have HE2 : Hid (u2 = T) := by
         show _ = _
         rw [<- HD1.out, dropB_stop (fun _ => hb)]
        have BL := blank_any (iAt u2 (u2.length - 1))
        rw [hb] at BL
        generalize iAt u2 (u2.length - 1) = x2 at d0 BL
        clear hu hb HD HD1
        go_wp2_with (go_at_call 55; refine (BL _).mono ?_; rintro e w' ⟨rfl, rfl⟩)
        go_ret
        refine ⟨?_, rfl⟩
        rw [<- HE2.out]
        exact ⟨_, _, rfl, hc1, hs⟩
      ·have hl3 : u2.length = 0 := by omega
       have HE2 : Hid (u2 = T) := by
        show _ = _
        rw [<- HD1.out, dropB_stop (fun h => absurd h hl2)]
       clear HD HD1
       obtain rfl : u2 = [] := List.eq_nil_of_length_eq_zero hl3
       go_wp2
       go_ret
       refine ⟨?_, rfl⟩
       rw [<- HE2.out]
       exact ⟨_, _, rfl, hc1, hs⟩
     ·have hb0' : ¬ (i : Int) < (R.length : Int) - 1 := by omega
      have HE2 : Hid (u2 = T) := by
       have := HD.out; simp only [hb0, decide_false, Bool.false_eq_true, if_false] at this |-; exact this
      clear HD
      go_wp2
      go_ret
      refine ⟨?_, rfl⟩
      rw [<- HE2.out]
      exact ⟨_, _, rfl, hc1, hs⟩
  ·have hi1 : i = 0 := by omega
   have HE1 : Hid (u = (if decide (0 < i) then dropF r.t else r.t)) := by
    have := HD.out
    simp only [hi0, decide_false, Bool.false_eq_true, if_false] at this |-
    exact this
   clear HD
   subst hi1
   go_wp2
   go_loop [5] (fun v => ∃ (q' : Option Addr) (u' : List Int) (c' : Nat), v = .slice q' u'.length c' /\ Sub r.q r.t q' u' /\ u'.length <= c' /\ c' <= maxLen /\ Hid ((if decide (0 + 1 < R.length) then dropB u' else u') = T)) (fun v => slen v)
   case atStart =>
    refine ⟨_, u, _, rfl, hs, hc1, hm1, ?_⟩
    show _ = _
    rw [<- HT.out]
    unfold trimF
    rw [<- HE1.out]
   case round =>
    clear HE1 hs hc1 hm1 hm2 hc2
    obtain ⟨q2, u2, c2, rfl, hs, hc1, hm1, HD⟩ := hrel
    have hm2 : (c2 : Int) <= 9223372036854775807 := by unfold maxLen at hm1; omega
    have hc2 : (u2.length : Int) <= c2 := by omega
    by_cases hb0 : 0 + 1 < R.length
    ·have hb0' : (0 : Int) < (R.length : Int) - 1 := by omega
     have HD1 : Hid (dropB u2 = T) := by have := HD.out; simp only [hb0, decide_true, if_true] at this |-; exact this
     by_cases hl2 : 0 < u2.length
     ·have hl2' : (0 : Int) < u2.length := by omega
      obtain ⟨b2, o2, rfl, hu⟩ := (hs.is hI).at hl2
      have d0 := hu (u2.length - 1) (by omega)
      have hj : ((u2.length - 1 : Nat) : Int) = (u2.length : Int) - 1 := by omega
      have hj2 : (0 : Int) <= (u2.length : Int) - 1 := by omega
      have S := slice_to (some ⟨b2, o2, none⟩) u2.length c2 (u2.length - 1) (by omega)
      rw [hj] at S
      cases hb : blankP (iAt u2 (u2.length - 1)) with
      | true =>
       have hs' := hs.init (u2.length - 1)
       have HD' : Hid ((if decide (0 + 1 < R.length) then dropB (u2.take (u2.length - 1)) else u2.take (u2.length - 1)) = T) := by
        have e := HD1.out
        show _ = _
        rw [<- e]
        simp only [hb0, decide_true, if_true]
        rw [dropB_more hl2 hb]
       have BL := blank_any (iAt u2 (u2.length - 1))
       rw [hb] at BL
       have hlen : (u2.take (u2.length - 1)).length = u2.length - 1 := by simp
       generalize iAt u2 (u2.length - 1) = x2 at d0 BL
       clear hu hb HD HD1
       go_wp2_with (go_at_call 55; refine (BL _).mono ?_; rintro e w' ⟨rfl, rfl⟩)
       go_round
       case rel => exact ⟨_, u2.take (u2.length - 1), c2, by rw [hlen], hs', by rw [hlen]; omega, hm1, HD'⟩
       case measure => simp [slen]; omega
      | false =>
       have HE2 : Hid (u2 = T) := by
        show _ = _
        rw [<- HD1.out, dropB_stop (fun _ => hb)]
       have BL := blank_any (iAt u2 (u2.length - 1))
       rw [hb] at BL
       generalize iAt u2 (u2.length - 1) = x2 at d0 BL
       clear hu hb HD HD1
       go_wp2_with (go_at_call 55; refine (BL _).mono ?_; rintro e w' ⟨rfl, rfl⟩)
       go_ret
       refine ⟨?_, rfl⟩
       rw [<- HE2.out]
       exact ⟨_, _, rfl, hc1, hs⟩
     ·have hl3 : u2.length = 0 := by omega
      have HE2 : Hid (u2 = T) := by
       show _ = _
       rw [<- HD1.out, dropB_stop (fun h => absurd h hl2)]
      clear HD HD1
      obtain rfl : u2 = [] := List.eq_nil_of_length_eq_zero hl3
      go_wp2
      go_ret
      refine ⟨?_, rfl⟩
      rw [<- HE2.out]
      exact ⟨_, _, rfl, hc1, hs⟩
    ·have hb0' : ¬ (0 : Int) < (R.length : Int) - 1 := by omega
     have HE2 : Hid (u2 = T) := by
      have := HD.out; simp only [hb0, decide_false, Bool.false_eq_true, if_false] at this |-; exact this
     clear HD
     go_wp2
     go_ret
     refine ⟨?_, rfl⟩
     rw [<- HE2.out]
     exact ⟨_, _, rfl, hc1, hs⟩
end Go.Proofs.YtipbhdhiklmieaaGreatDoor.P8
namespace Go.Proofs.YtipbhdhiklmieaaGreatDoor
open Go.RowKit Go.Shelf
open P8 (Row Mt)
theorem Tryz.info41 : (Tryz.prog.info? 41).map (fun i => (i.zero, i.size, i.bytes)) = some (some (.slice none 0 0), 1, 24) := by kernel_rfl
def rwV (r : Row) : Value := .slice r.q r.t.length r.c
abbrev OwnR (W : World) (base : Nat) (v : Value) (R : List Row) : Prop := W.ownsRow base 41 1 v R.length (R.map rwV)
def nilR : Row := ⟨none, [], 0⟩
theorem pushR {w : World} {base : Nat} {v : Value} {R : List Row} (h : OwnR w base v R) (hb : base <= w.heap.size) (hn : R.length + 1 <= 1073741824) (r : Row) :
  ∃ g cap w1, (Builtin.append_ #[73, 73] 73 #[v, .slice (some ⟨w.heap.size, 0, none⟩) 1 1]).run Tryz.prog (w.alloc (.cells #[rwV r] 41)) = .ok (.slice (some ⟨g, 0, none⟩) (R.length + 1) cap) w1 /\
   OwnR w1 base (.slice (some ⟨g, 0, none⟩) (R.length + 1) cap) (R ++ [r]) /\ (w.alloc (.cells #[rwV r] 41)).grownBy w1 v.ownBlock /\ (v.ownBlock = some g \/ g = w.heap.size + 1) := by
 obtain ⟨i0, hi, hz0, hz1, hz2⟩ := info_parts Tryz.info41
 obtain ⟨g, cap, w1, h1, h2, h3, h4, -⟩ := run_append_lies (P := Tryz.prog) (w.alloc (.cells #[rwV r] 41)) 73 73 base 41 i0 (.slice none 0 0) 1 24 (by kernel_rfl) hi hz0 hz1 hz2 rfl (by decide)
  v R.length (R.map rwV) (h.alloc _) ⟨w.heap.size, 0, none⟩ 1 1 [rwV r] rfl (by
   intro j u hj
   rw [add_plain, Nat.zero_add, box_new]
   simpa using hj) (by simp [rwV, Value.oneCell']) (by decide) (by unfold maxLen; omega) (by omega) (by simp; omega) (w.heap.size + 1) (by simp)
 refine ⟨g, cap, w1, h1, ?_, h3, h4⟩
 unfold OwnR
 rw [List.map_append, List.length_append]
 exact h2
theorem map_mod {α : Type} (a : α) : ∀ k, (List.range k).map (fun _ => a) = List.replicate k a
 | 0 => rfl
 | k + 1 => by rw [List.range_succ, List.map_append, map_mod a k, List.replicate_succ']; rfl
theorem zero41 (k : Nat) : (Builtin.zeroCells #[.slice none 0 0] k).toList = List.replicate k (.slice none 0 0) := by
 simp [Builtin.zeroCells, Nat.mod_one]
 exact map_mod _ k
theorem und73 : Tryz.prog.underlying 73 = some (.slice 41) := by kernel_rfl
theorem und3 : Tryz.prog.underlying 3 = some (.int .i64) := by kernel_rfl
theorem wrapN {k : Nat} (h : k <= 1073741824) : IntKind.i64.wrap (k : Int) = k := by
 simp [IntKind.wrap, IntKind.bits]
 omega
theorem pushZ {w : World} {base : Nat} {v : Value} {R : List Row} (h : OwnR w base v R) (h0 : 0 < R.length) (k : Nat) (hb : base <= w.heap.size) (hn : R.length + k <= 1073741824) :
  ∃ g cap w1, (Builtin.append_ #[73, 3] 73 #[v, .int .i64 (k : Nat)]).run Tryz.prog w = .ok (.slice (some ⟨g, 0, none⟩) (R.length + k) cap) w1 /\
   OwnR w1 base (.slice (some ⟨g, 0, none⟩) (R.length + k) cap) (R ++ List.replicate k nilR) /\ w.grownBy w1 v.ownBlock /\ (v.ownBlock = some g \/ g = w.heap.size) := by
 obtain ⟨i0, hi, hz0, hz1, hz2⟩ := info_parts Tryz.info41
 have hlen : (R ++ List.replicate k nilR).length = R.length + k := by simp
 have hmap : (R ++ List.replicate k nilR).map rwV = R.map rwV ++ List.replicate k (.slice none 0 0) := by simp [rwV, nilR]
 have hw := wrapN (k := k) (by omega)
 have e1 : ¬ ((k : Int) < 0) := by omega
 have e2 : ¬ ((281474976710656 : Int) < (k : Int) * 24) := by omega
 have hzc : (Value.slice none 0 0).cells = #[.slice none 0 0] := rfl
 obtain ⟨g, cap, rfl, hbg, hlt⟩ := h.form h0
 have hh := h
 obtain ⟨h1, ⟨e, -⟩ | ⟨g', cap', cur, e, hbg', hg, hnc, hcm, hcs, htake⟩⟩ := h
 ·cases e
 ·cases e
  rw [Nat.mul_one] at hcs htake
  by_cases hroom : R.length + k <= cap
  ·have hst := run_storeCells_at (P := Tryz.prog) g R.length 41 (List.replicate k (.slice none 0 0)) 0 cur w hg (by simp; omega) (by simp [Value.oneCell'])
   refine ⟨g, cap, w.setRow g (cur.toList.take (R.length + 0) ++ List.replicate k (Value.slice none 0 0) ++ cur.toList.drop (R.length + 0 + (List.replicate k (Value.slice none 0 0)).length)).toArray, ?_, ?_, ⟨rfl, rfl, rfl, by simp, fun j _ hj => setRow_other w g j _ (fun e => hj (by simp [Value.ownBlock, e]))⟩, .inl rfl⟩
   ·by_cases hk : k = 0
    ·subst hk
     have hw0 : IntKind.i64.wrap 0 = 0 := by decide
     have hnc2 : R.length <= cap := by omega
     simp [hw0, hnc2, Builtin.append_, run_underlying und73, run_underlying und3, sizeOf, typeInfo, zeroValue, hi, hz0, hz1, hz2, asInt, asIntOf, hw, e1, e2, hroom, Addr.add_lit, storeCells]
     exact (setRow_self w g cur 41 (0, 0) hg).symm
    ·have hst2 := hst
     simp [Builtin.append_, run_underlying und73, run_underlying und3, sizeOf, typeInfo, zeroValue, hi, hz0, hz1, hz2, hzc, asInt, asIntOf, hw, e1, e2, hroom, Addr.add_lit, zero41, hk] at hst2 |-
     rw [hst2]
     rfl
   ·unfold OwnR
    rw [hlen, hmap]
    refine ⟨by simp, .inr ⟨g, cap, _, rfl, hbg, setRow_heap w g cur _ 41 _ hg, hroom, hcm, ?_, ?_⟩⟩
    ·simp; omega
    ·simp only [Nat.add_zero, Nat.mul_one]
     rw [htake, List.append_assoc]
     rw [<- List.append_assoc, List.take_append_of_le_length (by simp)]
     rw [List.take_of_length_le (by simp)]
  ·have hcells := run_firstCells_some (P := Tryz.prog) w.drew 1 R.length ⟨g, 0, none⟩ R.length cap (R.map rwV) (by simp) (fun j u hj => by
    have := World.ownsRow.cells hh (g := g) rfl j u hj
    simpa using this)
   have h48 : Builtin.nextslicecap (R.length + k) cap * 24 <= 281474976710656 := growslice_fits (by omega) (by omega)
   refine ⟨w.heap.size, grownCap w (R.length + k) cap 41, w.drew.alloc (.cells ((R.map rwV ++ List.replicate k (Value.slice none 0 0)).toArray ++ Builtin.zeroCells #[.slice none 0 0] (grownCap w (R.length + k) cap 41 - (R.length + k))) 41), ?_, ?_, ⟨rfl, rfl, rfl, by simp, fun j hj _ => Below.heap_alloc w.drew _ j hj⟩, .inr rfl⟩
   ·have h63' : ¬ ((9223372036854775807 : Int) < (R.length : Int) + (k : Int)) := by omega
    have h48' : ¬ (281474976710656 < Builtin.nextslicecap (R.length + k) cap * 24) := by omega
    by_cases hk : k = 0
    ·subst hk; exact absurd hnc (by simpa using hroom)
    ·simp [Builtin.append_, run_underlying und73, run_underlying und3, sizeOf, typeInfo, zeroValue, hi, hz0, hz1, hz2, hzc, asInt, asIntOf, hw, e1, e2, hroom, Addr.add_lit, hk, h63', h48', Question.forced, hcells, newRow, grownCap]
     have hz : Builtin.zeroCells #[Value.slice none 0 0] k = (List.replicate k (Value.slice none 0 0)).toArray := Array.ext' (zero41 k)
     rw [hz]
     generalize Builtin.zeroCells #[Value.slice none 0 0] _ = Z
     have : (List.map rwV R).toArray ++ ((List.replicate k (Value.slice none 0 0)).toArray ++ Z) = (List.map rwV R ++ List.replicate k (Value.slice none 0 0)).toArray ++ Z := Array.ext' (by simp)
     rw [this]
   ·unfold OwnR
    rw [hlen, hmap]
    have hge := grownCap_ge w (R.length + k) cap 41
    refine ⟨by simp, .inr ⟨w.heap.size, _, _, rfl, hb, heap_alloc_new w.drew _, hge, grownCap_le_maxLen w (R.length + k) cap 41 (by unfold maxLen; omega), ?_, ?_⟩⟩
    ·simp [size_zeroCells]; omega
    ·rw [Nat.mul_one, Array.toList_append, List.take_append_of_le_length (by simp)]
     exact List.take_of_length_le (by simp)
end Go.Proofs.YtipbhdhiklmieaaGreatDoor
namespace Go.Proofs.YtipbhdhiklmieaaGreatDoor
open Go.RowKit Go.Shelf
open P8 (Row Mt)
attribute [local go_sem] Oper.semAt_some
def Few (R : List Row) : Prop := R.length <= 600 /\ ∀ r ∈ R, r.t.length <= 1300
def enV : Option Nat -> Value
 | none => .tuple #[.int .i64 0, .bool false]
 | some p => .tuple #[.int .i64 (p : Nat), .bool true]
def Ends (fid : Nat) (en : List Int -> Option Nat) : Prop := ∀ (q : Option Addr) (t : List Int) (c : Nat) (W : World), t.length <= 1300 -> Is W q t -> Calls Tryz.prog fid #[.slice q t.length c] W fun e w' => e = .returned (enV (en t)) /\ Below W.heap.size W w'
def Folds (fid : Nat) (f : List (List Int) -> List Int) : Prop := ∀ (p : Option Addr) (R : List Row) (c : Nat) (W : World), Few R -> R.length <= c -> c <= maxLen -> Mt W p R -> Calls Tryz.prog fid #[.slice p R.length c] W fun e w' => (∃ q k, e = .returned (.slice q (f (R.map (·.t))).length k) /\ Is w' q (f (R.map (·.t)))) /\ (f (R.map (·.t))).length <= 1000000 /\ Below W.heap.size W w'
structure LowQ (O : Orc) (Tb : World -> Prop) : Prop where
 tb : ∀ A B : World, Below 1 A B -> Tb A -> Tb B
 sEnd : Ends 105 O.sEnd
 dEnd : Ends 106 O.dEnd
 sRead : Folds 109 O.sRead
 dRead : ∀ (p : Option Addr) (R : List Row) (c : Nat) (W : World), Tb W -> Few R -> R.length <= c -> c <= maxLen -> Mt W p R -> Calls Tryz.prog 108 #[.slice p R.length c] W fun e w' => Below W.heap.size W w' /\ (((O.dRead (R.map (·.t))).2 ≠ 0 /\ e = .returned (.tuple #[.slice none 0 0, .int .i64 (O.dRead (R.map (·.t))).2])) \/
  ((O.dRead (R.map (·.t))).2 = 0 /\ (O.dRead (R.map (·.t))).1.length <= 1000000 /\ ∃ q k, e = .returned (.tuple #[.slice q (O.dRead (R.map (·.t))).1.length k, .int .i64 0]) /\ Is w' q (O.dRead (R.map (·.t))).1))
structure LowP (O : Orc) : Prop where
 begins : ∀ (fl : Bool) (q : Option Addr) (t : List Int) (c : Nat) (W : World), t.length <= 1300 -> Is W q t -> Calls Tryz.prog 71 #[.slice q t.length c, .bool fl] W fun e w' => e = .returned (.bool (O.begins fl t)) /\ Below W.heap.size W w'
 pEnd : ∀ (fl : Bool) (q : Option Addr) (t : List Int) (c : Nat) (W : World), t.length <= 1300 -> Is W q t -> Calls Tryz.prog 117 #[.slice q t.length c, .bool fl] W fun e w' => e = .returned (.int .i64 (O.pEnd fl t : Nat)) /\ Below W.heap.size W w'
 fold : Folds 118 O.fold
structure Low (O : Orc) (Tb : World -> Prop) : Prop where
 c : LowC O
 l : LowL O
 t : LowT O
 n : LowN O
 q : LowQ O Tb
 p : LowP O
section
variable {w : World} {wb : Nat} {E : Env} {s : St} {ov tv : Value} {O : Orc} {Tb : World -> Prop}
theorem Okp.okL {p : Pl} (h : Okp E p) : okL E.L p := by
 obtain ⟨x, hx, hk⟩ := h
 exact ⟨x.lp, by unfold Env.L; rw [List.getElem?_map, hx]; rfl, hk⟩
theorem okL.okp {p : Pl} (h : okL E.L p) : Okp E p := by
 obtain ⟨x, hx, hk⟩ := h
 unfold Env.L at hx
 rw [List.getElem?_map] at hx
 cases hm : E.M[p.i]? with
 | none => rw [hm] at hx; cases hx
 | some y => rw [hm] at hx; cases hx; exact ⟨y, hm, hk⟩
theorem Post.ret {r : Except Int St} {en : Ending} {w' : World} (h : Post wb E w r en w') : ∃ c, en = .returned (.int .i64 c) := by
 obtain ⟨-, h⟩ := h
 split at h
 ·exact ⟨_, h.1⟩
 ·exact ⟨_, h⟩
theorem Post.pre {V w' : World} {r : Except Int St} {en : Ending} (k : Kee wb w V) (h : Post wb E V r en w') : Post wb E w r en w' := ⟨k.trans h.1, h.2⟩
structure Bq (w V : World) (wb : Nat) (E : Env) (s : St) (ov tv : Value) (x : Hs) (B b o : Nat) (c : Int) : Prop where
 k : Kee wb w V
 w : Wk V wb E s ov tv
 h : Bh V B x
 c : V.cell? ⟨b, o, none⟩ = some (.int .i64 c)
theorem Bq.on {V V' : World} {x : Hs} {B b o : Nat} {c : Int} (h : Bq w V wb E s ov tv x B b o c) (hb : Below V.heap.size V V') : Bq w V' wb E s ov tv x B b o c :=
 ⟨h.k.trans (Kee.of hb), h.w.on hb, h.h.on hb, (hb.cell (p := ⟨b, o, none⟩) (World.block_lt_of_cell? V _ h.c)).trans h.c⟩
theorem Bq.cells {V : World} {x : Hs} {B b o : Nat} {c : Int} (h : Bq w V wb E s ov tv x B b o c) : V.cell? ⟨B, 0, none⟩ = some (.string x.an) /\ V.cell? ⟨B, 1, none⟩ = some (.string x.tg) /\ V.cell? ⟨B, 2, none⟩ = some (.int .i64 (x.bi : Nat)) /\ V.cell? ⟨B, 3, none⟩ = some (.int .i64 (x.bk : Nat)) /\ V.cell? ⟨wb, 3, none⟩ = some (.bool E.b) /\ V.cell? ⟨wb, 4, none⟩ = some (.int .i64 (s.p.i : Nat)) /\ V.cell? ⟨wb, 5, none⟩ = some (.int .i64 (s.p.k : Nat)) /\ V.cell? ⟨b, o, none⟩ = some (.int .i64 c) := by
 have y0 := h.h.cell 0
 have y1 := h.h.cell 1
 have y2 := h.h.cell 2
 have y3 := h.h.cell 3
 have c3 := h.w.cell 3
 have c4 := h.w.cell 4
 have c5 := h.w.cell 5
 simp at y0 y1 y2 y3 c3 c4 c5
 exact ⟨y0, y1, y2, y3, c3, c4, c5, h.c⟩
abbrev yzaj0 (V1 : World) (x : Hs) : World := (V1.alloc (.cells #[.string x.an, .string x.tg, .int .i64 (x.bi : Nat), .int .i64 (x.bk : Nat)] 125))
theorem begin_of (LW : Low O Tb) (h : Wk w wb E s ov tv) (hs : Sml s) (hf : Fine E) (hp : Okp E s.p)
  (QU : ∀ (V : World) (p : Pl) (x : Hs) (c : Int), Kee wb w V -> Wk V wb E { s with p := p } ov tv -> Okp E p -> 0 < (rst E.L p).length -> c = 34 \/ c = 39 -> Calls Tryz.prog 69 #[(.pointer (some ⟨wb, 0, none⟩)), x.v, .int .i64 c] V fun en w' => Post wb E V (quoW O E.L E.n { s with p := p } x (decide (c = 34))) en w')
  (PL : ∀ (V : World) (p : Pl) (x : Hs) (wf : Bool), Kee wb w V -> Wk V wb E { s with p := p } ov tv -> Okp E p -> Calls Tryz.prog 72 #[(.pointer (some ⟨wb, 0, none⟩)), x.v, .bool wf] V fun en w' => (∃ v, en = .returned v) /\ Kee wb V w' /\ ∃ ov' tv', Wk w' wb E (plnW O E.L E.n { s with p := p } x wf) ov' tv') :
  Calls Tryz.prog 40 #[(.pointer (some ⟨wb, 0, none⟩))] w fun en w' => Post wb E w (begW O E.L E.n E.d E.b s) en w' := by
 have PR := properties_any LW.c LW.l LW.n h hf hp
 have hgo := fun y b r => proF_goes (O := O) (n := E.n) 3 s.p hs0 y b r (muW E.L s.p + 1) hp.okL (by omega) (fun e => by cases e)
 have hne := fun c => proF_ne (O := O) (L := E.L) (n := E.n) 3 s.p hs0 c
 have hol := hs.op
 unfold begW
 cases hr : proF O E.L E.n 3 s.p hs0 with
 | error c =>
  rw [hr] at PR
  dsimp only at PR |-
  have h0 := hne c hr
  have h1 : (c == 0) = false := by rw [beq_eq_false_iff_ne]; exact h0
  have h2 : (c != 0) = true := by simp [h0]
  clear hr hgo hne h QU PL
  go_enter Tryz.func40, Tryz.ntmps40
  go_wp2_with (first | (go_at_call 66; refine PR.mono ?_; clear PR; rintro en V1 ⟨hk, ⟨⟨x, rfl⟩, -⟩⟩))
  go_ret
  exact ⟨hk.trans (Kee.alloc wb V1 _), rfl⟩
 | ok res =>
  obtain ⟨x, st, p⟩ := res
  rw [hr] at PR
  dsimp only at PR
  obtain ⟨g1, g2, g3, g4⟩ := hgo x st p hr
  have hpo := g1.okp
  have FA : Hid (∀ V1 : World, Kee wb w V1 -> Wk V1 wb E { s with p := p } ov tv -> Kee wb w (yzaj0 V1 x) /\ Wk (yzaj0 V1 x) wb E { s with p := p } ov tv /\ Bh (yzaj0 V1 x) V1.heap.size x) := fun V1 k1 k2 => ⟨k1.trans (Kee.alloc wb V1 _), k2.on (below_alloc V1 _), Bh.new V1 x⟩
  have NT : Hid (∀ V : World, Wk V wb E { s with p := p } ov tv -> Calls Tryz.prog 67 #[(.pointer (some ⟨wb, 0, none⟩)), x.v] V fun en w' => Post wb E V (notW O { s with p := p } x) en w') := fun V hV => nothing_any LW.t hV (hs.at p) x
  cases st with
  | false =>
   dsimp only
   generalize notW O { s with p := p } x = RR at NT |-
   clear hr hgo hne h QU PL
   go_enter Tryz.func40, Tryz.ntmps40
   go_wp2_with (first | (go_at_call 66; refine PR.mono ?_; clear PR; rintro en V1 ⟨hk, rfl, hw1⟩; obtain ⟨a1, a2, a3⟩ := FA.out V1 hk hw1; have y0 := a3.cell 0; have y1 := a3.cell 1; have y2 := a3.cell 2; have y3 := a3.cell 3; simp at y0 y1 y2 y3; have NC := NT.out _ a2; have HA : Hid _ := a1; clear a1 a2 a3 hw1 hk FA NT) | (go_at_call 67; refine NC.mono ?_; clear NC; rintro en V3 hpo3; have HP3 := hpo3.pre HA.out; obtain ⟨e3, rfl⟩ := hpo3.ret; clear hpo3))
   go_ret
   exact HP3
  | true =>
   have h0 := g3 rfl
   dsimp only
   have FB : Hid (∀ V1 V2 : World, Wk V1 wb E { s with p := p } ov tv -> Bh V1 (V1.heap.size - 1) x -> Below V1.heap.size V1 V2 -> Kee wb V1 V2 /\ Wk V2 wb E { s with p := p } ov tv /\ Bh V2 (V1.heap.size - 1) x) := fun V1 V2 k2 k3 kb => ⟨Kee.of kb, k2.on kb, k3.on kb⟩
   have RS : Hid (∀ V : World, Wk V wb E { s with p := p } ov tv -> Calls Tryz.prog 54 #[.pointer (some ⟨wb, 0, none⟩), p.v] V fun en w' => en = .returned (.slice (rq E p) (rst E.L p).length (rc E p)) /\ Below V.heap.size V w') := fun V hV => rest_any hV hf hpo
   have HD : Hid (∀ V : World, Wk V wb E { s with p := p } ov tv -> ∃ b o, rq E p = some ⟨b, o, none⟩ /\ ∀ W, Below wb V W -> W.cell? ⟨b, o, none⟩ = some (.int .i64 (hd E.L p))) := fun V hV => head_at hV.lin hf hpo h0
   have hl1 := rest_small hf hpo
   have hl0 : (0 : Int) < ((rst E.L p).length : Int) := by omega
   obtain ⟨b, o, hbo⟩ : ∃ b o, rq E p = some ⟨b, o, none⟩ := by obtain ⟨b, o, hq, -⟩ := HD.out _ (h.setP p); exact ⟨b, o, hq⟩
   rw [hbo] at RS
   have FQ : Hid (∀ V1 : World, Kee wb w V1 -> Wk V1 wb E { s with p := p } ov tv -> Bh (yzaj0 V1 x) V1.heap.size x /\ Bq w (yzaj0 V1 x) wb E { s with p := p } ov tv x V1.heap.size b o (hd E.L p)) := fun V1 k1 k2 => by
    obtain ⟨a1, a2, a3⟩ := FA.out V1 k1 k2
    obtain ⟨b', o', hq', hc'⟩ := HD.out _ a2
    rw [hbo] at hq'
    cases hq'
    exact ⟨a3, a1, a2, a3, hc' _ (Below.refl _ _)⟩
   clear FA FB HD
   have AL : Hid (∀ (V B : World), Bq w V wb E { s with p := p } ov tv x B.heap.size b o (hd E.L p) -> Calls Tryz.prog 68 #[(.pointer (some ⟨wb, 0, none⟩)), x.v] V fun en w' => Post wb E V (aliW O E.L { s with p := p } x) en w') := fun V B hV => alias_any LW.c LW.n hV.w (hs.at p) hf hpo h0 x
   have OP : Hid (∀ (V B : World) (c : Int), c = 91 \/ c = 123 -> Bq w V wb E { s with p := p } ov tv x B.heap.size b o c -> Calls Tryz.prog 70 #[(.pointer (some ⟨wb, 0, none⟩)), x.v, .int .i64 c] V fun en w' => Post wb E V (opeW E.d { s with p := p } x c) en w') := fun V B c hc hV => opens_any hV.w (hs.at p) hf hpo x c hc
   have QQ : Hid (∀ (V B : World) (c : Int), c = 34 \/ c = 39 -> Bq w V wb E { s with p := p } ov tv x B.heap.size b o c -> Calls Tryz.prog 69 #[(.pointer (some ⟨wb, 0, none⟩)), x.v, .int .i64 c] V fun en w' => Post wb E V (quoW O E.L E.n { s with p := p } x (decide (c = 34))) en w') := fun V B c hc hV => QU V p x c hV.k hV.w hpo h0 hc
   have PP : Hid (∀ (V B : World) (wf : Bool) (c : Int), Bq w V wb E { s with p := p } ov tv x B.heap.size b o c -> Calls Tryz.prog 72 #[(.pointer (some ⟨wb, 0, none⟩)), x.v, .bool wf] V fun en w' => (∃ v, en = .returned v) /\ Kee wb V w' /\ ∃ ov' tv', Wk w' wb E (plnW O E.L E.n { s with p := p } x wf) ov' tv') := fun V B wf c hV => PL V p x wf hV.k hV.w hpo
   have SZ : Hid (∀ (V B : World) (c : Int), Bq w V wb E { s with p := p } ov tv x B.heap.size b o c -> Calls Tryz.prog 41 #[.pointer (some ⟨wb, 6, none⟩)] V fun en w' => en = .returned (.int .i64 (s.op.length : Nat)) /\ w' = V) := fun V B c hV => size_any (s := { s with p := p }) hV.w (by show s.op.length <= _; omega)
   have BG : Hid (∀ (V B : World) (wf : Bool) (c : Int), Bq w V wb E { s with p := p } ov tv x B.heap.size b o c -> Calls Tryz.prog 71 #[.slice (some ⟨b, o, none⟩) (rst E.L p).length (rc E p), .bool wf] V fun en w' => en = .returned (.bool (O.begins wf (rst E.L p))) /\ Below V.heap.size V w') := fun V B wf c hV => by
    have := LW.p.begins wf (rq E p) (rst E.L p) (rc E p) V hl1 (rest_is hV.w.lin hf hpo).1
    rw [hbo] at this
    exact this
   generalize hd E.L p = c at FQ AL |-
   by_cases h42 : c = 42
   ·rw [if_pos h42]
    subst h42
    generalize aliW O E.L { s with p := p } x = RR at AL |-
    clear hr hgo hne h QU PL NT
    go_enter Tryz.func40, Tryz.ntmps40
    go_wp2_with (first | (go_at_call 66; refine PR.mono ?_; clear PR; rintro en V1 ⟨hk, rfl, hw1⟩; obtain ⟨hq1, hq2⟩ := FQ.out V1 hk hw1; obtain ⟨y0, y1, y2, y3, c3, c4, c5, cc⟩ := hq2.cells; have RC := RS.out _ hq2.w; have HQ : Hid _ := hq2; clear hq2 hw1 hk) | (go_at_call 54; refine RC.mono ?_; clear RC; rintro en V3 ⟨rfl, hB3⟩; have hq3 := HQ.out.on hB3; obtain ⟨y03, y13, y23, y33, c33, c43, c53, cc3⟩ := hq3.cells; have NC := AL.out V3 V1 hq3; have HQ3 : Hid _ := hq3; clear hq3) | (go_at_call 68; refine NC.mono ?_; clear NC; rintro en V9 hpo9; have HP9 := hpo9.pre HQ3.out.k; obtain ⟨e9, rfl⟩ := hpo9.ret; clear hpo9))
    go_ret
    exact HP9
   ·rw [if_neg h42]
    have e42 : (c == 42) = false := by rw [beq_eq_false_iff_ne]; exact h42
    by_cases h34 : c = 34
    ·rw [if_pos (.inl h34)]
     subst h34
     have QQ1 : Hid (∀ (V B : World), Bq w V wb E { s with p := p } ov tv x B.heap.size b o 34 -> Calls Tryz.prog 69 #[(.pointer (some ⟨wb, 0, none⟩)), x.v, .int .i64 34] V fun en w' => Post wb E V (quoW O E.L E.n { s with p := p } x (decide ((34 : Int) = 34))) en w') := fun V B => QQ.out V B 34 (.inl rfl)
     generalize quoW O E.L E.n { s with p := p } x (decide ((34 : Int) = 34)) = RR at QQ1 |-
     clear hr hgo hne h QU PL NT QQ
     go_enter Tryz.func40, Tryz.ntmps40
     go_wp2_with (first | (go_at_call 66; refine PR.mono ?_; clear PR; rintro en V1 ⟨hk, rfl, hw1⟩; obtain ⟨hq1, hq2⟩ := FQ.out V1 hk hw1; obtain ⟨y0, y1, y2, y3, c3, c4, c5, cc⟩ := hq2.cells; have RC := RS.out _ hq2.w; have HQ : Hid _ := hq2; clear hq2 hw1 hk) | (go_at_call 54; refine RC.mono ?_; clear RC; rintro en V3 ⟨rfl, hB3⟩; have hq3 := HQ.out.on hB3; obtain ⟨y03, y13, y23, y33, c33, c43, c53, cc3⟩ := hq3.cells; have NC := QQ1.out V3 V1 hq3; have HQ3 : Hid _ := hq3; clear hq3) | (go_at_call 69; refine NC.mono ?_; clear NC; rintro en V9 hpo9; have HP9 := hpo9.pre HQ3.out.k; obtain ⟨e9, rfl⟩ := hpo9.ret; clear hpo9))
     go_ret
     exact HP9
    ·have e34 : (c == 34) = false := by rw [beq_eq_false_iff_ne]; exact h34
     by_cases h39 : c = 39
     ·rw [if_pos (.inr h39)]
      subst h39
      have QQ1 : Hid (∀ (V B : World), Bq w V wb E { s with p := p } ov tv x B.heap.size b o 39 -> Calls Tryz.prog 69 #[(.pointer (some ⟨wb, 0, none⟩)), x.v, .int .i64 39] V fun en w' => Post wb E V (quoW O E.L E.n { s with p := p } x (decide ((39 : Int) = 34))) en w') := fun V B => QQ.out V B 39 (.inr rfl)
      generalize quoW O E.L E.n { s with p := p } x (decide ((39 : Int) = 34)) = RR at QQ1 |-
      clear hr hgo hne h QU PL NT QQ
      go_enter Tryz.func40, Tryz.ntmps40
      go_wp2_with (first | (go_at_call 66; refine PR.mono ?_; clear PR; rintro en V1 ⟨hk, rfl, hw1⟩; obtain ⟨hq1, hq2⟩ := FQ.out V1 hk hw1; obtain ⟨y0, y1, y2, y3, c3, c4, c5, cc⟩ := hq2.cells; have RC := RS.out _ hq2.w; have HQ : Hid _ := hq2; clear hq2 hw1 hk) | (go_at_call 54; refine RC.mono ?_; clear RC; rintro en V3 ⟨rfl, hB3⟩; have hq3 := HQ.out.on hB3; obtain ⟨y03, y13, y23, y33, c33, c43, c53, cc3⟩ := hq3.cells; have NC := QQ1.out V3 V1 hq3; have HQ3 : Hid _ := hq3; clear hq3) | (go_at_call 69; refine NC.mono ?_; clear NC; rintro en V9 hpo9; have HP9 := hpo9.pre HQ3.out.k; obtain ⟨e9, rfl⟩ := hpo9.ret; clear hpo9))
      go_ret
      exact HP9
     ·rw [if_neg (by rintro (e | e); exact h34 e; exact h39 e)]
      have e39 : (c == 39) = false := by rw [beq_eq_false_iff_ne]; exact h39
      by_cases h91 : c = 91
      ·rw [if_pos (.inl h91)]
       subst h91
       have OP1 : Hid (∀ (V B : World), Bq w V wb E { s with p := p } ov tv x B.heap.size b o 91 -> Calls Tryz.prog 70 #[(.pointer (some ⟨wb, 0, none⟩)), x.v, .int .i64 91] V fun en w' => Post wb E V (opeW E.d { s with p := p } x 91) en w') := fun V B => OP.out V B 91 (.inl rfl)
       generalize opeW E.d { s with p := p } x 91 = RR at OP1 |-
       clear hr hgo hne h QU PL NT OP
       go_enter Tryz.func40, Tryz.ntmps40
       go_wp2_with (first | (go_at_call 66; refine PR.mono ?_; clear PR; rintro en V1 ⟨hk, rfl, hw1⟩; obtain ⟨hq1, hq2⟩ := FQ.out V1 hk hw1; obtain ⟨y0, y1, y2, y3, c3, c4, c5, cc⟩ := hq2.cells; have RC := RS.out _ hq2.w; have HQ : Hid _ := hq2; clear hq2 hw1 hk) | (go_at_call 54; refine RC.mono ?_; clear RC; rintro en V3 ⟨rfl, hB3⟩; have hq3 := HQ.out.on hB3; obtain ⟨y03, y13, y23, y33, c33, c43, c53, cc3⟩ := hq3.cells; have NC := OP1.out V3 V1 hq3; have HQ3 : Hid _ := hq3; clear hq3) | (go_at_call 70; refine NC.mono ?_; clear NC; rintro en V9 hpo9; have HP9 := hpo9.pre HQ3.out.k; obtain ⟨e9, rfl⟩ := hpo9.ret; clear hpo9))
       go_ret
       exact HP9
      ·have e91 : (c == 91) = false := by rw [beq_eq_false_iff_ne]; exact h91
       by_cases h123 : c = 123
       ·rw [if_pos (.inr h123)]
        subst h123
        have OP1 : Hid (∀ (V B : World), Bq w V wb E { s with p := p } ov tv x B.heap.size b o 123 -> Calls Tryz.prog 70 #[(.pointer (some ⟨wb, 0, none⟩)), x.v, .int .i64 123] V fun en w' => Post wb E V (opeW E.d { s with p := p } x 123) en w') := fun V B => OP.out V B 123 (.inr rfl)
        generalize opeW E.d { s with p := p } x 123 = RR at OP1 |-
        clear hr hgo hne h QU PL NT OP
        go_enter Tryz.func40, Tryz.ntmps40
        go_wp2_with (first | (go_at_call 66; refine PR.mono ?_; clear PR; rintro en V1 ⟨hk, rfl, hw1⟩; obtain ⟨hq1, hq2⟩ := FQ.out V1 hk hw1; obtain ⟨y0, y1, y2, y3, c3, c4, c5, cc⟩ := hq2.cells; have RC := RS.out _ hq2.w; have HQ : Hid _ := hq2; clear hq2 hw1 hk) | (go_at_call 54; refine RC.mono ?_; clear RC; rintro en V3 ⟨rfl, hB3⟩; have hq3 := HQ.out.on hB3; obtain ⟨y03, y13, y23, y33, c33, c43, c53, cc3⟩ := hq3.cells; have NC := OP1.out V3 V1 hq3; have HQ3 : Hid _ := hq3; clear hq3) | (go_at_call 70; refine NC.mono ?_; clear NC; rintro en V9 hpo9; have HP9 := hpo9.pre HQ3.out.k; obtain ⟨e9, rfl⟩ := hpo9.ret; clear hpo9))
        go_ret
        exact HP9
       ·rw [if_neg (by rintro (e | e); exact h91 e; exact h123 e)]
        have e123 : (c == 123) = false := by rw [beq_eq_false_iff_ne]; exact h123
        clear AL OP QQ
        cases hEb : E.b with
        | false =>
         simp only [Bool.not_false, Bool.true_or]
         cases hbeg : O.begins true (rst E.L p) with
         | true =>
          rw [if_pos rfl]
          clear hr hgo hne h QU PL NT
          go_enter Tryz.func40, Tryz.ntmps40
          go_wp2_with (first | (go_at_call 66; refine PR.mono ?_; clear PR; rintro en V1 ⟨hk, rfl, hw1⟩; obtain ⟨hq1, hq2⟩ := FQ.out V1 hk hw1; obtain ⟨y0, y1, y2, y3, c3, c4, c5, cc⟩ := hq2.cells; rw [hEb] at c3; have RC := RS.out _ hq2.w; have HQ : Hid _ := hq2; clear hq2 hw1 hk) | (go_at_call 54; refine RC.mono ?_; clear RC; rintro en V3 ⟨rfl, hB3⟩; have hq3 := HQ.out.on hB3; obtain ⟨y03, y13, y23, y33, c33, c43, c53, cc3⟩ := hq3.cells; have RC2 := RS.out _ hq3.w; rw [hEb] at c33; have HQ3 : Hid _ := hq3; clear hq3) | (go_at_call 54; refine RC2.mono ?_; clear RC2; rintro en V4 ⟨rfl, hB4⟩; have hq4 := HQ3.out.on hB4; obtain ⟨y04, y14, y24, y34, c34, c44, c54, cc4⟩ := hq4.cells; have BC := BG.out V4 V1 true c hq4; rw [hbeg] at BC; rw [hEb] at c34; have HQ4 : Hid _ := hq4; clear hq4) | (go_at_call 71; refine BC.mono ?_; clear BC; rintro en V5 ⟨rfl, hB5⟩; have hq5 := HQ4.out.on hB5; obtain ⟨y05, y15, y25, y35, c35, c45, c55, cc5⟩ := hq5.cells; have NC := PP.out V5 V1 true c hq5; have HQ5 : Hid _ := hq5; clear hq5) | (go_at_call 72; refine NC.mono ?_; clear NC; rintro en V9 ⟨⟨v9, rfl⟩, hk9, hw9⟩))
          go_ret
          exact ⟨HQ5.out.k.trans hk9, rfl, hw9⟩
         | false =>
          rw [if_neg (by decide)]
          generalize notW O { s with p := p } x = RR at NT |-
          clear hr hgo hne h QU PL PP
          go_enter Tryz.func40, Tryz.ntmps40
          go_wp2_with (first | (go_at_call 66; refine PR.mono ?_; clear PR; rintro en V1 ⟨hk, rfl, hw1⟩; obtain ⟨hq1, hq2⟩ := FQ.out V1 hk hw1; obtain ⟨y0, y1, y2, y3, c3, c4, c5, cc⟩ := hq2.cells; rw [hEb] at c3; have RC := RS.out _ hq2.w; have HQ : Hid _ := hq2; clear hq2 hw1 hk) | (go_at_call 54; refine RC.mono ?_; clear RC; rintro en V3 ⟨rfl, hB3⟩; have hq3 := HQ.out.on hB3; obtain ⟨y03, y13, y23, y33, c33, c43, c53, cc3⟩ := hq3.cells; have RC2 := RS.out _ hq3.w; rw [hEb] at c33; have HQ3 : Hid _ := hq3; clear hq3) | (go_at_call 54; refine RC2.mono ?_; clear RC2; rintro en V4 ⟨rfl, hB4⟩; have hq4 := HQ3.out.on hB4; obtain ⟨y04, y14, y24, y34, c34, c44, c54, cc4⟩ := hq4.cells; have BC := BG.out V4 V1 true c hq4; rw [hbeg] at BC; rw [hEb] at c34; have HQ4 : Hid _ := hq4; clear hq4) | (go_at_call 71; refine BC.mono ?_; clear BC; rintro en V5 ⟨rfl, hB5⟩; have hq5 := HQ4.out.on hB5; obtain ⟨y05, y15, y25, y35, c35, c45, c55, cc5⟩ := hq5.cells; have NC := NT.out V5 hq5.w; have HQ5 : Hid _ := hq5; clear hq5) | (go_at_call 67; refine NC.mono ?_; clear NC; rintro en V9 hpo9; have HP9 := hpo9.pre HQ5.out.k; obtain ⟨e9, rfl⟩ := hpo9.ret; clear hpo9))
          go_ret
          exact HP9
        | true =>
         by_cases hop0 : 0 < s.op.length
         ·have hop1 : (0 : Int) < (s.op.length : Int) := by omega
          simp only [Bool.not_true, Bool.false_or, decide_eq_true hop0]
          cases hbeg : O.begins true (rst E.L p) with
          | true =>
           rw [if_pos rfl]
           clear hr hgo hne h QU PL NT
           go_enter Tryz.func40, Tryz.ntmps40
           go_wp2_with (first | (go_at_call 66; refine PR.mono ?_; clear PR; rintro en V1 ⟨hk, rfl, hw1⟩; obtain ⟨hq1, hq2⟩ := FQ.out V1 hk hw1; obtain ⟨y0, y1, y2, y3, c3, c4, c5, cc⟩ := hq2.cells; rw [hEb] at c3; have RC := RS.out _ hq2.w; have HQ : Hid _ := hq2; clear hq2 hw1 hk) | (go_at_call 54; refine RC.mono ?_; clear RC; rintro en V3 ⟨rfl, hB3⟩; have hq3 := HQ.out.on hB3; obtain ⟨y03, y13, y23, y33, c33, c43, c53, cc3⟩ := hq3.cells; have RC2 := RS.out _ hq3.w; rw [hEb] at c33; have SC := SZ.out V3 V1 c hq3; have HQ3 : Hid _ := hq3; clear hq3) | (go_at_call 41; refine SC.mono ?_; clear SC; rintro en V3' ⟨rfl, rfl⟩) | (go_at_call 54; refine RC2.mono ?_; clear RC2; rintro en V4 ⟨rfl, hB4⟩; have hq4 := HQ3.out.on hB4; obtain ⟨y04, y14, y24, y34, c34, c44, c54, cc4⟩ := hq4.cells; have BC := BG.out V4 V1 true c hq4; rw [hbeg] at BC; rw [hEb] at c34; have HQ4 : Hid _ := hq4; clear hq4) | (go_at_call 71; refine BC.mono ?_; clear BC; rintro en V5 ⟨rfl, hB5⟩; have hq5 := HQ4.out.on hB5; obtain ⟨y05, y15, y25, y35, c35, c45, c55, cc5⟩ := hq5.cells; have NC := PP.out V5 V1 true c hq5; have HQ5 : Hid _ := hq5; clear hq5) | (go_at_call 72; refine NC.mono ?_; clear NC; rintro en V9 ⟨⟨v9, rfl⟩, hk9, hw9⟩))
           go_ret
           exact ⟨HQ5.out.k.trans hk9, rfl, hw9⟩
          | false =>
           rw [if_neg (by decide)]
           generalize notW O { s with p := p } x = RR at NT |-
           clear hr hgo hne h QU PL PP
           go_enter Tryz.func40, Tryz.ntmps40
           go_wp2_with (first | (go_at_call 66; refine PR.mono ?_; clear PR; rintro en V1 ⟨hk, rfl, hw1⟩; obtain ⟨hq1, hq2⟩ := FQ.out V1 hk hw1; obtain ⟨y0, y1, y2, y3, c3, c4, c5, cc⟩ := hq2.cells; rw [hEb] at c3; have RC := RS.out _ hq2.w; have HQ : Hid _ := hq2; clear hq2 hw1 hk) | (go_at_call 54; refine RC.mono ?_; clear RC; rintro en V3 ⟨rfl, hB3⟩; have hq3 := HQ.out.on hB3; obtain ⟨y03, y13, y23, y33, c33, c43, c53, cc3⟩ := hq3.cells; have RC2 := RS.out _ hq3.w; rw [hEb] at c33; have SC := SZ.out V3 V1 c hq3; have HQ3 : Hid _ := hq3; clear hq3) | (go_at_call 41; refine SC.mono ?_; clear SC; rintro en V3' ⟨rfl, rfl⟩) | (go_at_call 54; refine RC2.mono ?_; clear RC2; rintro en V4 ⟨rfl, hB4⟩; have hq4 := HQ3.out.on hB4; obtain ⟨y04, y14, y24, y34, c34, c44, c54, cc4⟩ := hq4.cells; have BC := BG.out V4 V1 true c hq4; rw [hbeg] at BC; rw [hEb] at c34; have HQ4 : Hid _ := hq4; clear hq4) | (go_at_call 71; refine BC.mono ?_; clear BC; rintro en V5 ⟨rfl, hB5⟩; have hq5 := HQ4.out.on hB5; obtain ⟨y05, y15, y25, y35, c35, c45, c55, cc5⟩ := hq5.cells; have NC := NT.out V5 hq5.w; have HQ5 : Hid _ := hq5; clear hq5) | (go_at_call 67; refine NC.mono ?_; clear NC; rintro en V9 hpo9; have HP9 := hpo9.pre HQ5.out.k; obtain ⟨e9, rfl⟩ := hpo9.ret; clear hpo9))
           go_ret
           exact HP9
         ·have hop1 : ¬ (0 : Int) < (s.op.length : Int) := by omega
          simp only [Bool.not_true, Bool.false_or, decide_eq_false hop0]
          cases hbeg : O.begins false (rst E.L p) with
          | true =>
           rw [if_pos rfl]
           clear hr hgo hne h QU PL NT
           go_enter Tryz.func40, Tryz.ntmps40
           go_wp2_with (first | (go_at_call 66; refine PR.mono ?_; clear PR; rintro en V1 ⟨hk, rfl, hw1⟩; obtain ⟨hq1, hq2⟩ := FQ.out V1 hk hw1; obtain ⟨y0, y1, y2, y3, c3, c4, c5, cc⟩ := hq2.cells; rw [hEb] at c3; have RC := RS.out _ hq2.w; have HQ : Hid _ := hq2; clear hq2 hw1 hk) | (go_at_call 54; refine RC.mono ?_; clear RC; rintro en V3 ⟨rfl, hB3⟩; have hq3 := HQ.out.on hB3; obtain ⟨y03, y13, y23, y33, c33, c43, c53, cc3⟩ := hq3.cells; have RC2 := RS.out _ hq3.w; rw [hEb] at c33; have SC := SZ.out V3 V1 c hq3; have HQ3 : Hid _ := hq3; clear hq3) | (go_at_call 41; refine SC.mono ?_; clear SC; rintro en V3' ⟨rfl, rfl⟩) | (go_at_call 54; refine RC2.mono ?_; clear RC2; rintro en V4 ⟨rfl, hB4⟩; have hq4 := HQ3.out.on hB4; obtain ⟨y04, y14, y24, y34, c34, c44, c54, cc4⟩ := hq4.cells; have BC := BG.out V4 V1 false c hq4; rw [hbeg] at BC; rw [hEb] at c34; have HQ4 : Hid _ := hq4; clear hq4) | (go_at_call 71; refine BC.mono ?_; clear BC; rintro en V5 ⟨rfl, hB5⟩; have hq5 := HQ4.out.on hB5; obtain ⟨y05, y15, y25, y35, c35, c45, c55, cc5⟩ := hq5.cells; have NC := PP.out V5 V1 false c hq5; have HQ5 : Hid _ := hq5; clear hq5) | (go_at_call 72; refine NC.mono ?_; clear NC; rintro en V9 ⟨⟨v9, rfl⟩, hk9, hw9⟩))
           go_ret
           exact ⟨HQ5.out.k.trans hk9, rfl, hw9⟩
          | false =>
           rw [if_neg (by decide)]
           generalize notW O { s with p := p } x = RR at NT |-
           clear hr hgo hne h QU PL PP
           go_enter Tryz.func40, Tryz.ntmps40
           go_wp2_with (first | (go_at_call 66; refine PR.mono ?_; clear PR; rintro en V1 ⟨hk, rfl, hw1⟩; obtain ⟨hq1, hq2⟩ := FQ.out V1 hk hw1; obtain ⟨y0, y1, y2, y3, c3, c4, c5, cc⟩ := hq2.cells; rw [hEb] at c3; have RC := RS.out _ hq2.w; have HQ : Hid _ := hq2; clear hq2 hw1 hk) | (go_at_call 54; refine RC.mono ?_; clear RC; rintro en V3 ⟨rfl, hB3⟩; have hq3 := HQ.out.on hB3; obtain ⟨y03, y13, y23, y33, c33, c43, c53, cc3⟩ := hq3.cells; have RC2 := RS.out _ hq3.w; rw [hEb] at c33; have SC := SZ.out V3 V1 c hq3; have HQ3 : Hid _ := hq3; clear hq3) | (go_at_call 41; refine SC.mono ?_; clear SC; rintro en V3' ⟨rfl, rfl⟩) | (go_at_call 54; refine RC2.mono ?_; clear RC2; rintro en V4 ⟨rfl, hB4⟩; have hq4 := HQ3.out.on hB4; obtain ⟨y04, y14, y24, y34, c34, c44, c54, cc4⟩ := hq4.cells; have BC := BG.out V4 V1 false c hq4; rw [hbeg] at BC; rw [hEb] at c34; have HQ4 : Hid _ := hq4; clear hq4) | (go_at_call 71; refine BC.mono ?_; clear BC; rintro en V5 ⟨rfl, hB5⟩; have hq5 := HQ4.out.on hB5; obtain ⟨y05, y15, y25, y35, c35, c45, c55, cc5⟩ := hq5.cells; have NC := NT.out V5 hq5.w; have HQ5 : Hid _ := hq5; clear hq5) | (go_at_call 67; refine NC.mono ?_; clear NC; rintro en V9 hpo9; have HP9 := hpo9.pre HQ5.out.k; obtain ⟨e9, rfl⟩ := hpo9.ret; clear hpo9))
           go_ret
           exact HP9
end
end Go.Proofs.YtipbhdhiklmieaaGreatDoor
