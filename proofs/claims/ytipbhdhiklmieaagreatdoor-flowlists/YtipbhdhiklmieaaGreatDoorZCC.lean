/- FlowLists' walk. -/
import Derived.Test.YtipbhdhiklmieaaGreatDoorZCB
set_option linter.all false
set_option maxRecDepth 100000
set_option maxHeartbeats 8000000
namespace Go.Proofs.YtipbhdhiklmieaaGreatDoor
open Go.RowKit Go.Shelf
def clB (m : Bool) : ByteArray := if m then ⟨#[125]⟩ else ⟨#[93]⟩
theorem lists_both (Ws : List ByteArray) (Gs : List Int) (q1 q2 : Option Addr) (c1 c2 : Nat) (m tl : Bool) (w : World) (h1 : Strs w q1 Ws) (h2 : Is w q2 Gs) (hT : P7.Tab w) (hn : Ws.length <= 20) (hg : Ws.length + 2 <= Gs.length) (hm : m = true -> Ws.length % 2 = 0) :
  Calls Tryz.prog 6 #[.slice q1 Ws.length c1, .slice q2 Gs.length c2, .bool m, .bool tl] w fun e w' => e = .returned (.bool true) /\ Below w.heap.size w w' := by
 have a1 : ¬ (20 : Int) < (Ws.length : Int) := by omega
 have a2 : ¬ (Gs.length : Int) < (Ws.length : Int) + 2 := by omega
 have a4 : wrap64 ((Ws.length : Int) + 2) = (Ws.length : Int) + 2 := by unfold wrap64; omega
 have AL := alive_any w hT
 obtain ⟨b2, o2, rfl, hg2⟩ := h2.at (by omega)
 have H1 : Hid (Strs w q1 Ws) := h1
 have H2 : Hid (∀ j, j < Gs.length -> w.cell? ⟨b2, o2 + j, none⟩ = some (.int .i64 (iAt Gs j))) := hg2
 have HT : Hid (P7.Tab w) := hT
 have hxl := wgs_len (Ws := Ws) (Gs := Gs) (by omega)
 obtain ⟨xs, hxs⟩ : ∃ xs, wgs Ws Gs = xs := ⟨_, rfl⟩
 rw [hxs] at hxl
 have HX : Hid (wgs Ws Gs = xs) := hxs
 clear h1 h2 hT hg2 hxs
 have HM : Hid (m = true -> Ws.length % 2 = 0) := hm
 clear hm
 cases m
 let M : Bool := false
 rotate_left
 let M : Bool := true
 have a5 : (Ws.length : Int).tmod 2 = 0 := by have := HM.out rfl; rw [Int.tmod_eq_emod_of_nonneg (by omega)]; omega
 all_goals
  go_enter Tryz.func6, Tryz.ntmps6
  go_wp2_with fail
  refine AL.mono ?_
  clear AL
  rintro e w1 ⟨rfl, hB1⟩
  go_wp2
  have hT1 := hB1.size
  have hBT : Below w.heap.size w (w1.alloc (.cells tabB 9)) := hB1.alloc hB1.size _
  have hTT : (w1.alloc (.cells tabB 9)).heap[w1.heap.size]? = some (.cells tabB 9) := World.alloc_heap_new w1 _
  have hsT : (w1.alloc (.cells tabB 9)).heap.size = w1.heap.size + 1 := by simp
  have HO : Hid (((w1.alloc (.cells tabB 9)).alloc (.cells (beE (opn M)).c.toArray 50)).ownsRow (w1.heap.size + 1) 50 6 (.slice (some ⟨w1.heap.size + 1, 0, none⟩) 1 1) 1 (flE [beE (opn M)])) := own_one hsT _
  have HBO : Hid (Below (w1.heap.size + 1) (w1.alloc (.cells tabB 9)) ((w1.alloc (.cells tabB 9)).alloc (.cells (beE (opn M)).c.toArray 50))) := by rw [<- hsT]; exact below_alloc _ _
  have HTT : Hid ((w1.alloc (.cells tabB 9)).heap[w1.heap.size]? = some (.cells tabB 9)) := hTT
  have HBT : Hid (Below w.heap.size w (w1.alloc (.cells tabB 9))) := hBT
  have HST : Hid (w1.heap.size + 1 <= (w1.alloc (.cells tabB 9)).heap.size) := by rw [hsT]; exact Nat.le_refl _
  clear hTT hBT hsT
  show Code.wp Tryz.prog _ _ ⟨_, _⟩ ((w1.alloc (.cells tabB 9)).alloc (.cells (beE (opn M)).c.toArray 50))
  generalize w1.alloc (.cells tabB 9) = WT at HO HBO HTT HBT HST |-
  go_loopw [11, 13, 14] (fun s v i wr => ∃ (k : Nat) (S : ByteArray), k <= Ws.length /\ s = .string S /\ bI S = opn M :: pref M tl xs k /\ S.size <= 1 + 58 * k /\ i = .int .i64 (k : Nat) /\ (∀ x, x ∈ Ws.take k -> WOk x) /\ wr.ownsRow (w1.heap.size + 1) 50 6 v (k + 1) (flE (beE (opn M) :: (Ws.take k).map wE)) /\ Below (w1.heap.size + 1) WT wr) (fun _ _ i _ => Ws.length - (intOf i).toNat)
  case atStart => exact ⟨0, _, Nat.zero_le _, rfl, rfl, by decide, rfl, (fun x hx => by simp at hx), HO.out, HBO.out⟩
  case round =>
   obtain ⟨k, S, hk, rfl, hS, hSz, rfl, hW, hOk, hBk⟩ := hrel
   obtain ⟨wo, rfl⟩ : ∃ wo : World, wo = wr := ⟨_, rfl⟩
   have hBw : Below w.heap.size w wo := HBT.out.trans (hBk.mono (by omega))
   by_cases hlt : k < Ws.length
   ·have hki : (k : Int) < (Ws.length : Int) := by omega
    obtain ⟨x, hx⟩ : ∃ x, Ws[k]? = some x := ⟨_, List.getElem?_eq_getElem hlt⟩
    obtain ⟨b1, o1, rfl, cw⟩ := (H1.out.on hBw) k x hx
    cases hx0 : x.toList.isEmpty
    rotate_left
    ·clear hOk hBk
     go_wp2
     go_ret
     exact ⟨rfl, hBw⟩
    ·have hx1 : 0 < x.size := str_pos hx0
     by_cases hx4 : 40 < x.size
     ·have hx4' : (40 : Int) < (x.size : Int) := by omega
      clear hOk hBk
      go_wp2
      go_ret
      exact ⟨rfl, hBw⟩
     ·have hx4' : ¬ (40 : Int) < (x.size : Int) := by omega
      have hgk := (hBw.cell (p := ⟨b2, o2 + k, none⟩) (World.block_lt_of_cell? w _ (H2.out k (by omega)))).trans (H2.out k (by omega))
      have hkg : (k : Int) < (Gs.length : Int) := by omega
      have hjn := gap_num (iAt Gs k)
      have HP : Hid _ := pref_next HX.out hxl hx (by omega : k < Gs.length) M tl
      obtain ⟨j, hj⟩ : ∃ j, gix (iAt Gs k) = j := ⟨_, rfl⟩
      have hj5 : j < 5 := by rw [<- hj]; exact gix_lt _
      rw [hj] at hjn HP
      have ct := tab_cell HTT.out hBk hj5
      obtain ⟨g3, cap3, w3, hrun, hON, hgr⟩ := pushE hOk (Nat.le_trans HST.out hBk.size) (by omega) (wE x)
      rw [take_ev hx] at hON
      have HON : Hid _ := hON
      have HBN : Hid (Below (w1.heap.size + 1) WT w3) := push_below HST.out hBk hOk hgr
      have hrun : (Builtin.append_ #[27, 27] 27 #[u13, .slice (some ⟨wo.heap.size, 0, none⟩) 1 1]).run Tryz.prog (wo.alloc (.cells #[.int .i64 7, .string x, .string ⟨#[]⟩, .string ⟨#[]⟩, .int .i64 1, .bool false] 50)) = .ok (.slice (some ⟨g3, 0, none⟩) (k + 1 + 1) cap3) w3 := hrun
      have HXK : Hid (Ws[k]? = some x) := hx
      have hj5' : (j : Int) < 5 := by omega
      clear hOk hBk hON hgr hx hj
      go_wp2
      go_loopw [16] (fun j wr => ∃ (n : Nat), n <= x.size /\ j = .int .i64 (n : Nat) /\ wr = wo /\ ∀ i, i < n -> Ltr (iAt (bI x) i)) (fun j _ => x.size - (intOf j).toNat)
      case atStart => exact ⟨0, Nat.zero_le _, rfl, rfl, fun i hi => by omega⟩
      case round =>
       obtain ⟨n, hnx, rfl, rfl, hlt2⟩ := hrel
       by_cases hni : n < x.size
       ·have hni' : (n : Int) < (x.size : Int) := by omega
        have hby := byte_at hni
        by_cases l1 : (97 : Int) <= (x[n].toNat : Int)
        ·by_cases l2 : (x[n].toNat : Int) <= 122
         ·have l2' : ¬ (122 : Int) < (x[n].toNat : Int) := by omega
          have hnew : Hid (∀ i, i < n + 1 -> Ltr (iAt (bI x) i)) := fun i hi => by
           rcases Nat.lt_or_ge i n with h | h
           ·exact hlt2 i h
           ·obtain rfl : i = n := by omega
            rw [hby]
            exact ⟨l1, l2⟩
          clear hlt2 hby
          go_wp2
          go_roundw
          case rel => exact ⟨n + 1, by omega, by go_num, trivial, hnew.out⟩
          case measure => simp [intOf]; omega
         ·have l2' : (122 : Int) < (x[n].toNat : Int) := by omega
          clear hlt2 hby
          go_wp2
          go_ret
          exact ⟨rfl, hBw⟩
        ·have l1' : (x[n].toNat : Int) < 97 := by omega
         clear hlt2 hby
         go_wp2
         go_ret
         exact ⟨rfl, hBw⟩
       ·obtain rfl : n = x.size := by omega
        have HWO : Hid (WOk x) := ⟨hx1, by omega, all_ltr hlt2⟩
        have hgz := gapB_size j
        have TA := addS S (gapB j) (by omega) (by omega)
        have TB := addS (S ++ gapB j) x (by rw [apZ]; omega) (by omega)
        have TC := addS (S ++ gapB j ++ x) (gapB j) (by rw [apZ, apZ]; omega) (by omega)
        have TD := addS (S ++ gapB j ++ x ++ gapB j) ⟨#[44]⟩ (by rw [apZ, apZ, apZ]; omega) (by decide)
        have TE := addS (S ++ gapB j ++ x ++ gapB j) ⟨#[58, 32]⟩ (by rw [apZ, apZ, apZ]; omega) (by decide)
        clear hlt2 cw
        by_cases hs : k + 1 < Ws.length
        ·have hs1 : (k : Int) + 1 < (Ws.length : Int) := by omega
         by_cases hp : (M && decide (k % 2 = 0)) = true
         ·first
          | exact absurd (show (false && decide (k % 2 = 0)) = true from hp) (by simp)
          | (
            have hp1 : (k : Int).tmod 2 = 0 := by (have h : (true && decide (k % 2 = 0)) = true := hp; simp at h; rw [Int.tmod_eq_emod_of_nonneg (by omega)]; omega)
            have hbi : bI (S ++ gapB j ++ x ++ gapB j ++ ⟨#[58, 32]⟩) = opn M :: pref M tl xs (k + 1) := by
             rw [HP.out, if_pos (by simp [hs]), if_pos hp]
             simp [bI_app, gapB_I, hS]; rfl
            have hbz : (S ++ gapB j ++ x ++ gapB j ++ ⟨#[58, 32]⟩).size <= 1 + 58 * (k + 1) := by
             have hz : (⟨#[58, 32]⟩ : ByteArray).size <= 2 := by decide
             simp only [apZ]
             omega
            clear hS
            go_wp2_with (at_builtin; refine wpList_append_run rfl _ _ 27 rfl rfl rfl hrun ?_)
            go_roundw
            case rel => exact ⟨k + 1, _, by omega, rfl, hbi, hbz, by go_num, take_ok hW HXK.out HWO.out, HON.out, HBN.out⟩
            case measure => simp [intOf]; omega)
         ·first
          | (have hp1 : (k : Int).tmod 2 = 1 := by (have h : ¬ (true && decide (k % 2 = 0)) = true := hp; simp at h; rw [Int.tmod_eq_emod_of_nonneg (by omega)]; omega))
          | skip
          have hbi : bI (S ++ gapB j ++ x ++ gapB j ++ ⟨#[44]⟩) = opn M :: pref M tl xs (k + 1) := by
           rw [HP.out, if_pos (by simp [hs]), if_neg hp]
           simp [bI_app, gapB_I, hS]; rfl
          have hbz : (S ++ gapB j ++ x ++ gapB j ++ ⟨#[44]⟩).size <= 1 + 58 * (k + 1) := by
           have hz : (⟨#[44]⟩ : ByteArray).size <= 2 := by decide
           simp only [apZ]
           omega
          clear hS
          go_wp2_with (at_builtin; refine wpList_append_run rfl _ _ 27 rfl rfl rfl hrun ?_)
          go_roundw
          case rel => exact ⟨k + 1, _, by omega, rfl, hbi, hbz, by go_num, take_ok hW HXK.out HWO.out, HON.out, HBN.out⟩
          case measure => simp [intOf]; omega
        ·have hs1 : ¬ (k : Int) + 1 < (Ws.length : Int) := by omega
         cases tl
         ·have hbi : bI (S ++ gapB j ++ x) = opn M :: pref M false xs (k + 1) := by
           rw [HP.out, if_neg (by simp [hs])]
           simp [bI_app, gapB_I, hS]
          have hbz : (S ++ gapB j ++ x).size <= 1 + 58 * (k + 1) := by
           simp only [apZ]
           omega
          clear hS
          go_wp2_with (at_builtin; refine wpList_append_run rfl _ _ 27 rfl rfl rfl hrun ?_)
          go_roundw
          case rel => exact ⟨k + 1, _, by omega, rfl, hbi, hbz, by go_num, take_ok hW HXK.out HWO.out, HON.out, HBN.out⟩
          case measure => simp [intOf]; omega
         ·by_cases hp : (M && decide (k % 2 = 0)) = true
          ·first
           | exact absurd (show (false && decide (k % 2 = 0)) = true from hp) (by simp)
           | (exfalso; have h : (true && decide (k % 2 = 0)) = true := hp; have h5 := HM.out (by trivial); simp at h; omega)
          ·first
           | (have hp1 : (k : Int).tmod 2 = 1 := by (have h : ¬ (true && decide (k % 2 = 0)) = true := hp; simp at h; rw [Int.tmod_eq_emod_of_nonneg (by omega)]; omega))
           | skip
           have hbi : bI (S ++ gapB j ++ x ++ gapB j ++ ⟨#[44]⟩) = opn M :: pref M true xs (k + 1) := by
            rw [HP.out, if_pos (by simp), if_neg hp]
            simp [bI_app, gapB_I, hS]; rfl
           have hbz : (S ++ gapB j ++ x ++ gapB j ++ ⟨#[44]⟩).size <= 1 + 58 * (k + 1) := by
            have hz : (⟨#[44]⟩ : ByteArray).size <= 2 := by decide
            simp only [apZ]
            omega
           clear hS
           go_wp2_with (at_builtin; refine wpList_append_run rfl _ _ 27 rfl rfl rfl hrun ?_)
           go_roundw
           case rel => exact ⟨k + 1, _, by omega, rfl, hbi, hbz, by go_num, take_ok hW HXK.out HWO.out, HON.out, HBN.out⟩
           case measure => simp [intOf]; omega
   ·obtain rfl : k = Ws.length := by omega
    have hWs : ∀ x, x ∈ Ws -> WOk x := by rw [List.take_length] at hW; exact hW
    rw [List.take_length] at hOk
    have hgk := (hBw.cell (p := ⟨b2, o2 + Ws.length, none⟩) (World.block_lt_of_cell? w _ (H2.out Ws.length (by omega)))).trans (H2.out Ws.length (by omega))
    have hkg : (Ws.length : Int) < (Gs.length : Int) := by omega
    have hjn := gap_num (iAt Gs Ws.length)
    obtain ⟨j, hj⟩ : ∃ j, gix (iAt Gs Ws.length) = j := ⟨_, rfl⟩
    have hj5 : j < 5 := by rw [<- hj]; exact gix_lt _
    rw [hj] at hjn
    have ct := tab_cell HTT.out hBk hj5
    have hj5' : (j : Int) < 5 := by omega
    have hgz := gapB_size j
    have TA := addS S (gapB j) (by omega) (by omega)
    have TB1 := addS (S ++ gapB j) ⟨#[93]⟩ (by rw [apZ]; omega) (by decide)
    have TB2 := addS (S ++ gapB j) ⟨#[125]⟩ (by rw [apZ]; omega) (by decide)
    obtain ⟨g3, cap3, w3, hrun, hON, hgr⟩ := pushE hOk (Nat.le_trans HST.out hBk.size) (by omega) (enE (cls M))
    first
    | (have hrun : (Builtin.append_ #[27, 27] 27 #[u13, .slice (some ⟨wo.heap.size, 0, none⟩) 1 1]).run Tryz.prog (wo.alloc (.cells #[.int .i64 4, .string ⟨#[]⟩, .string ⟨#[]⟩, .string ⟨#[]⟩, .int .i64 0, .bool false] 50)) = .ok (.slice (some ⟨g3, 0, none⟩) (Ws.length + 1 + 1) cap3) w3 := hrun)
    | (have hrun : (Builtin.append_ #[27, 27] 27 #[u13, .slice (some ⟨wo.heap.size, 0, none⟩) 1 1]).run Tryz.prog (wo.alloc (.cells #[.int .i64 6, .string ⟨#[]⟩, .string ⟨#[]⟩, .string ⟨#[]⟩, .int .i64 0, .bool false] 50)) = .ok (.slice (some ⟨g3, 0, none⟩) (Ws.length + 1 + 1) cap3) w3 := hrun)
    have hBN : Below (w1.heap.size + 1) WT w3 := push_below HST.out hBk hOk hgr
    have hEV : EvL w3 (some ⟨g3, 0, none⟩) (beE (opn M) :: (Ws.map wE ++ [enE (cls M)])) := by
     refine row_at_is (base := w1.heap.size + 1) (cap := cap3) (n := Ws.length + 1 + 1) (by simp) ?_
     rw [show flE (beE (opn M) :: (Ws.map wE ++ [enE (cls M)])) = flE (beE (opn M) :: Ws.map wE) ++ (enE (cls M)).c by rw [<- List.cons_append, flE_app]; simp [flE]]
     exact hON
    have hB3 : Below w.heap.size w w3 := HBT.out.trans (hBN.mono (by omega))
    have ht : bI (S ++ gapB j ++ (clB M)) = lstT M tl j xs := by
     rw [bI_app, bI_app, hS, gapB_I, <- hxl]
     simp [lstT]
     rfl
    obtain ⟨k1, k2, k3, k4, f, i5, k5, hans⟩ := lst_ok M tl j (xs := xs) (fun x hx => by rw [<- HX.out] at hx; exact xs_ok hWs x hx) (by omega) (fun h => by rw [hxl]; exact HM.out (by first | exact h | trivial))
    have hev : xs.map (fun x => scE x.1) = Ws.map wE := by rw [<- HX.out]; exact xs_ev Ws Gs (by omega) hWs
    rw [hev] at hans
    have hsz : (S ++ gapB j ++ (clB M)).size <= 2000 := by rw [apZ, apZ]; have : ((clB M) : ByteArray).size = 1 := rfl; omega
    have LN := Lines_lst _ ht hsz k1 k2
    have HL : Hid ((lpsO (lstT M tl j xs)).length <= 600 /\ (lstT M tl j xs).length <= 1300) := ⟨k4, by omega⟩
    have HA : Hid _ := hans
    have HEV : Hid _ := hEV
    generalize lstT M tl j xs = t at LN HL HA
    obtain ⟨evs, hevs⟩ : ∃ evs, beE (opn M) :: (Ws.map wE ++ [enE (cls M)]) = evs := ⟨_, rfl⟩
    have hel : evs.length = Ws.length + 1 + 1 := by rw [<- hevs]; simp
    rw [hevs] at HA HEV
    clear hOk hBk hON hgr hj hS hW hWs ht k1 k2 hans hEV hev hevs hBN
    go_wp2_with (at_builtin; refine wpList_append_run rfl _ _ 27 rfl rfl rfl hrun ?_)
    refine (LN _).mono ?_
    clear LN TA TB1 TB2
    rintro e W4 ⟨p4, n4, c4, rfl, hg4, hb4⟩
    have hw4 := hB3.trans (hb4.mono hB3.size)
    have NW := New_txt c4 hg4 HL.out.1 HL.out.2
    clear hg4 hrun ct hgk
    go_wp2_with fail
    refine NW.mono ?_
    clear NW
    rintro e W5 ⟨rb, rfl, hr5, hb5⟩
    have hw5 := hw4.trans (hb5.mono hw4.size)
    have hb35 := hb4.trans (hb5.mono hb4.size)
    have NO := Node_row hr5 HL.out.1 HL.out.2 (HT.out.on hw5) (by decide) (by decide) HA.out
    rw [hel] at NO
    clear hr5 hb4 hb5 hw4 HA HL
    go_wp2_with fail
    refine NO.mono ?_
    clear NO
    rintro e W6 ⟨p6, c6, rfl, he6, hb6⟩
    have hw6 := hw5.trans (hb6.mono hw5.size)
    have SE := same_events c6 cap3 (by omega) he6 (EvL.on (w := w3) (p := some ⟨g3, 0, none⟩) (ev := evs) HEV.out (hb35.trans (hb6.mono hb35.size)))
    rw [hel] at SE
    clear he6 HEV hb6 hb35 hw5
    cases tl
    ·go_wp2_with (first | (go_at_call 14; refine (num_any _ _).mono ?_; rintro e W8 ⟨rfl, rfl⟩) | (go_at_call 15; refine SE.mono ?_; clear SE; rintro e W7 ⟨rfl, kk, rfl⟩))
     go_ret
     exact ⟨rfl, hw6.os, hw6.tape, hw6.output, hw6.size, hw6.block⟩
    ·by_cases hz : Ws.length = 0
     ·have hz' : (Ws.length : Int) = 0 := by omega
      have hz2 : ((Ws.length + 1 + 1 : Nat) : Int) = 2 := by omega
      clear SE
      go_wp2_with (first | (go_at_call 14; refine (num_any _ _).mono ?_; rintro e W8 ⟨rfl, rfl⟩))
      go_ret
      exact ⟨ret_bool (by simp), hw6⟩
     ·have hz' : ¬ (Ws.length : Int) = 0 := by omega
      go_wp2_with (first | (go_at_call 14; refine (num_any _ _).mono ?_; rintro e W8 ⟨rfl, rfl⟩) | (go_at_call 15; refine SE.mono ?_; clear SE; rintro e W7 ⟨rfl, kk, rfl⟩))
      go_ret
      exact ⟨rfl, hw6.os, hw6.tape, hw6.output, hw6.size, hw6.block⟩
end Go.Proofs.YtipbhdhiklmieaaGreatDoor
