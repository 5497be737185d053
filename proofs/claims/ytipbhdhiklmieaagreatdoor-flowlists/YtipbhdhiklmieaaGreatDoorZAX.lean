/- add: what the draft is then. -/
import Derived.Test.YtipbhdhiklmieaaGreatDoorZAW
set_option linter.all false
set_option maxRecDepth 100000
set_option maxHeartbeats 4000000
namespace Go.Proofs.YtipbhdhiklmieaaGreatDoor.P7
open P8
open Go.RowKit Go.Shelf
attribute [local go_sem] Oper.semAt_some
theorem add_in (op : Bool) (n : Nat) (n0 D : Nat) (X : Nat -> Prop) (w : World) (vl vc vm : Value) (R : List Row) (cur mt : List Int) (q : Option Addr) (t : List Int) (c : Nat) (last : Bool)
  (hd : Dr n0 D X w vl vc vm R cur op mt) (h0n : 0 < n0) (hc : t.length <= c) (hm : c <= maxLen) (hq : ∀ a, q = some a -> 0 < t.length -> a.block < n0) (hI : Is w q t) (hT : Tab w)
  (b1 : R.length <= 1048576) (b2 : cur.length + t.length <= 1099511627776) (b3 : mt.length + t.length <= 1099511627776) :
  CallsIn Fence.wide n Tryz.prog 152 #[.pointer (some ⟨D, 0, none⟩), .slice q t.length c, .bool last] w fun e w' => Below n0 w w' /\ AddPost n0 D X R cur mt (cond op (dropF t) t) last e w' := by
 cases op
 obtain ⟨q', c', T, rfl, rfl, rfl⟩ : ∃ q' c' T, q' = q /\ c' = c /\ T = t := ⟨_, _, _, rfl, rfl, rfl⟩
 have hc' := hc
 have hm' := hm
 have hI' := hI
 have hq' := hq
 show CallsIn _ _ _ _ _ _ fun e w' => Below n0 w w' /\ AddPost n0 D X R cur mt T last e w'
 have hd1 := ((hd.new (.cells #[.pointer (some ⟨D, 0, none⟩)] 212)).new (.cells #[.slice q' T.length c'] 41)).new (.cells #[.int .i64 0] 28)
 obtain ⟨k0, k1, k2, k3, f0, f1, f2, f3⟩ := dr_cell hd1.blk
 clear hd1
 refine callsIn_of_wp_marks Tryz.func152 rfl trivial ?_ rfl
 simp only [Tryz.ntmps152, frm, Nat.reduceAdd, Nat.reduceSub]
 gi_wp2_with (first | (refine ⟨trivial, (fun h => by cases h), ?_⟩; gi_at_call 179; refine (escapes_in _ _ _ _ _ _).mono ?_; rintro e w' ⟨rfl, rfl⟩))
 rotate_left
 show CallsIn _ _ _ _ _ _ fun e w' => Below n0 w w' /\ AddPost n0 D X R cur mt (dropF t) last e w'
 have hd1 := ((hd.new (.cells #[.pointer (some ⟨D, 0, none⟩)] 212)).new (.cells #[.slice q t.length c] 41)).new (.cells #[.int .i64 0] 28)
 obtain ⟨k0, k1, k2, k3, f0, f1, f2, f3⟩ := dr_cell hd1.blk
 have IN := callsIn_wide (n := n - 1) |>.2 (indent_any q t c _ hc hm (hI.grown (grown_trans (grown_trans (grown_new w (.cells #[.pointer (some ⟨D, 0, none⟩)] 212)) (grown_new _ (.cells #[.slice q t.length c] 41))) (grown_new _ (.cells #[.int .i64 0] 28)))))
 have hTl := dropF_le t
 obtain ⟨T, hTT⟩ : ∃ T, dropF t = T := ⟨_, rfl⟩
 rw [hTT] at IN hTl |-
 clear hTT
 clear hd1
 refine callsIn_of_wp_marks Tryz.func152 rfl trivial ?_ rfl
 simp only [Tryz.ntmps152, frm, Nat.reduceAdd, Nat.reduceSub]
 gi_wp2_with (first | (refine ⟨trivial, (fun h => by cases h), ?_⟩; gi_at_call 178; refine IN.mono ?_; rintro e w' ⟨⟨q', c', rfl, hc', hm', hsb⟩, rfl⟩; obtain ⟨k0', k1', k2', k3', f0', f1', f2', f3'⟩ := dr_cell (((hd.new (.cells #[.pointer (some ⟨D, 0, none⟩)] 212)).new (.cells #[.slice q' T.length c'] 41)).new (.cells #[.int .i64 0] 28)).blk) | (refine ⟨trivial, (fun h => by cases h), ?_⟩; gi_at_call 179; refine (escapes_in _ _ _ _ _ _).mono ?_; rintro e w' ⟨rfl, rfl⟩))
 clear k0' k1' k2' k3' f0' f1' f2' f3' IN
 have hI' : Is w q' T := hsb.is hI
 have hq' := hsb.block hq
 all_goals
  change Code.wpIn _ _ _ _ _ _ (wA w D q' T.length c' last)
  clear k0 k1 k2 k3 f0 f1 f2 f3
  obtain ⟨hsz, hdW, w0, w1, w2, w3, w4, w5, hbw⟩ := wA_facts hd q' T.length c' last
  have hTW := hT.below hbw h0n
  have hIW := hI'.below hq' hbw
  generalize wA w D q' T.length c' last = W0 at hsz hdW w0 w1 w2 w3 w4 w5 hbw hTW hIW |-
  have hns : n0 <= w.heap.size := hd.size
  have hwD : n0 <= D := hd.hD
  clear hd hT hI hI' hq hc hm
  generalize w.heap.size = s at *
  have hlen : T.length <= 1099511627776 := by omega
  obtain ⟨es, hes⟩ : ∃ es, esP last 0 0 T = es := ⟨_, rfl⟩
  have DK := ds_ok last T cur mt
  have SQ := esc_seq (n - 1) (s + 1 + 1 + 1 + 1) (s + 1 + 1 + 1 + 1 + 1) n0 c' q' T last hc' hm' W0 (by omega) h0n hTW hq' hIW w4.cell w5.cell
  have hat : ∀ x, x ∈ es -> (x.2.fault = 0 -> 1 <= x.2.size /\ x.1 + x.2.size <= T.length) := fun x hx h => by have := (esP_at last T 0 0 x (by rw [hes]; exact hx)).2.2 h; omega
  have HAP : Hid (∀ e w', AddPost n0 D X R cur mt T last e w' ↔ ((faultOf es ≠ 0 /\ e = .returned (.int .i64 (faultOf es : Nat))) \/ (faultOf es = 0 /\ e = .returned (.int .i64 0) /\ ∃ vl' vc' vm' R', Dr n0 D X w' vl' vc' vm' R' (if (dsAt T cur mt es es.length).opn then (dsAt T cur mt es es.length).line ++ T.drop (dsAt T cur mt es es.length).frm else []) (dsAt T cur mt es es.length).opn (dsAt T cur mt es es.length).meant /\ R'.map (·.t) = if (dsAt T cur mt es es.length).opn then R.map (·.t) else R.map (·.t) ++ [(dsAt T cur mt es es.length).line ++ T.drop (dsAt T cur mt es es.length).frm]))) := fun e w' => by unfold AddPost; rw [hes]
  rw [hes] at DK SQ
  clear hes hTW
  have hxs : ∀ b, (b = s \/ b = s + 1 \/ b = s + 1 + 1 \/ b = s + 1 + 1 + 1 \/ b = s + 1 + 1 + 1 + 1 \/ b = s + 1 + 1 + 1 + 1 + 1) -> xA X s b := fun b h => by rcases h with rfl | rfl | rfl | rfl | rfl | rfl <;> simp [xA, more]
  have X0 := hxs s (by simp)
  have X1 := hxs (s + 1) (by simp)
  have X2 := hxs (s + 1 + 1) (by simp)
  have X3 := hxs (s + 1 + 1 + 1) (by simp)
  have X4 := hxs (s + 1 + 1 + 1 + 1) (by simp)
  have X5 := hxs (s + 1 + 1 + 1 + 1 + 1) (by simp)
  clear hxs
  have hless : ∀ b, X b -> xA X s b := fun b h => .inl (.inl (.inl (.inl (.inl (.inl h)))))
  generalize xA X s = Y at hdW X0 X1 X2 X3 X4 X5 hless
  first
  | refine wpIn_rangeFuncB (gf := 195) (lb := #[.pointer (some ⟨s + 1 + 1 + 1 + 1, 0, none⟩), .pointer (some ⟨s + 1 + 1 + 1 + 1 + 1, 0, none⟩)]) rfl (enters_of Tryz.func195 (by kernel_rfl) rfl) SQ (fun h k => Ke.trans h k) (Ke.putObj (by omega) (by omega) (by omega)) (Below.refl _ _) (fun _ => rfl)
     (Iad n0 D Y s W0 vl R (.slice q' T.length c') T cur mt es) (Ixd n0 s W0 es) (Iad.own _ (by omega) (by omega)) (fun c => Ixd.own c _ (by omega) (by omega))
     ⟨⟨vc, vm, hdW⟩, (fun j y hj => by omega), w0, w1, w2, w3, Below.refl _ _⟩
     (fun x => .cells #[.int .i64 (x.2.size : Nat), .int .i64 x.2.point, .int .i64 (x.2.fault : Nat)] 217) (fun W x h => Ke.grown (grown_new _ _) (by omega) (by omega) (by omega))
     (fun x b => { tmps := #[(.pointer (some ⟨D, 0, none⟩)), (.slice q t.length c), (.bool last), (.pointer (some ⟨s, 0, none⟩)), (.pointer (some ⟨s + 1, 0, none⟩)), undef, (.pointer (some ⟨s + 1 + 1, 0, none⟩)), (.pointer (some ⟨s + 1 + 1 + 1, 0, none⟩)), (.int .i64 (x.1 : Nat)), (.pointer (some ⟨b, 0, none⟩)), (.pointer (some ⟨D, 0, none⟩)), (.pointer (some ⟨D, 0, none⟩)), (.pointer (some ⟨D, 2, none⟩)), (.bool true), (.slice q t.length c), (.slice q' T.length c'), (.pointer (some ⟨D, 0, none⟩)), (.pointer (some ⟨D, 0, none⟩)), (.pointer (some ⟨D, 2, none⟩)), (.slice q' T.length c'), (.bool last), (.func (.func 195) #[] #[.pointer (some ⟨s + 1 + 1 + 1 + 1, 0, none⟩), .pointer (some ⟨s + 1 + 1 + 1 + 1 + 1, 0, none⟩)]), (.int .i64 (x.1 : Nat)), (escV x.2), undef, undef, undef, undef, undef, undef, undef, undef, undef, undef, undef, undef, undef, undef, undef, undef, undef, undef, undef, undef, undef, undef, undef, undef, undef, undef, undef, undef, undef, undef, undef, undef, undef, undef, undef, undef, undef, undef, undef, undef, undef, undef, undef, undef, undef, undef, undef, undef, undef, undef, undef, undef, undef, undef, undef, undef, undef, undef, undef, undef, undef, undef, undef, undef, undef, undef, undef, undef, undef, undef, undef, undef, undef, undef, undef, undef, undef, undef, undef], defers := [] }) ?assign ?body ?done ?stop
  | refine wpIn_rangeFuncB (gf := 195) (lb := #[.pointer (some ⟨s + 1 + 1 + 1 + 1, 0, none⟩), .pointer (some ⟨s + 1 + 1 + 1 + 1 + 1, 0, none⟩)]) rfl (enters_of Tryz.func195 (by kernel_rfl) rfl) SQ (fun h k => Ke.trans h k) (Ke.putObj (by omega) (by omega) (by omega)) (Below.refl _ _) (fun _ => rfl)
     (Iad n0 D Y s W0 vl R (.slice q' T.length c') T cur mt es) (Ixd n0 s W0 es) (Iad.own _ (by omega) (by omega)) (fun c => Ixd.own c _ (by omega) (by omega))
     ⟨⟨vc, vm, hdW⟩, (fun j y hj => by omega), w0, w1, w2, w3, Below.refl _ _⟩
     (fun x => .cells #[.int .i64 (x.2.size : Nat), .int .i64 x.2.point, .int .i64 (x.2.fault : Nat)] 217) (fun W x h => Ke.grown (grown_new _ _) (by omega) (by omega) (by omega))
     (fun x b => { tmps := #[(.pointer (some ⟨D, 0, none⟩)), (.slice q' T.length c'), (.bool last), (.pointer (some ⟨s, 0, none⟩)), (.pointer (some ⟨s + 1, 0, none⟩)), undef, (.pointer (some ⟨s + 1 + 1, 0, none⟩)), (.pointer (some ⟨s + 1 + 1 + 1, 0, none⟩)), (.int .i64 (x.1 : Nat)), (.pointer (some ⟨b, 0, none⟩)), (.pointer (some ⟨D, 0, none⟩)), (.pointer (some ⟨D, 0, none⟩)), (.pointer (some ⟨D, 2, none⟩)), (.bool false), undef, undef, (.pointer (some ⟨D, 0, none⟩)), (.pointer (some ⟨D, 0, none⟩)), (.pointer (some ⟨D, 2, none⟩)), (.slice q' T.length c'), (.bool last), (.func (.func 195) #[] #[.pointer (some ⟨s + 1 + 1 + 1 + 1, 0, none⟩), .pointer (some ⟨s + 1 + 1 + 1 + 1 + 1, 0, none⟩)]), (.int .i64 (x.1 : Nat)), (escV x.2), undef, undef, undef, undef, undef, undef, undef, undef, undef, undef, undef, undef, undef, undef, undef, undef, undef, undef, undef, undef, undef, undef, undef, undef, undef, undef, undef, undef, undef, undef, undef, undef, undef, undef, undef, undef, undef, undef, undef, undef, undef, undef, undef, undef, undef, undef, undef, undef, undef, undef, undef, undef, undef, undef, undef, undef, undef, undef, undef, undef, undef, undef, undef, undef, undef, undef, undef, undef, undef, undef, undef, undef, undef, undef, undef, undef, undef, undef, undef], defers := [] }) ?assign ?body ?done ?stop
  case assign =>
   intro m l x W K hK
   simp only [encE, escV] at hK |-
   gi_wp2
   exact hK
  case body =>
   clear SQ HAP hdW w0 w1 w2 w3 w4 w5
   rintro m l i b9 ⟨at', sz, pt, ft⟩ W hx ⟨⟨vc, vm, hdA⟩, hok, A0, A1, A2, A3, hbW⟩ xb
   have hi : i < es.length := (List.getElem?_eq_some_iff.1 hx).1
   obtain ⟨ok1, ok2, ok3, ok4⟩ := DK i (by omega) hok
   obtain ⟨ok5, ok6⟩ := ok4 _ hx
   have hfl := hat _ (List.mem_of_getElem? hx)
   have HDS : Hid (dsAt T cur mt es (i + 1) = dstep T (dsAt T cur mt es i) (at', ⟨sz, pt, ft⟩)) := dsAt_succ hx
   have HFL : Hid (ft ≠ 0 -> faultOf es = ft) := fun h => faultOf_at hx h hok
   have HOK : Hid (ft = 0 -> ∀ j y, j < i + 1 -> es[j]? = some y -> y.2.fault = 0) := fun h j y hj hy => by
    by_cases e : j = i
    ·subst e; rw [hx] at hy; cases hy; exact h
    ·exact hok j y (by omega) hy
   dsimp only at ok5 ok6 hfl xb
   clear DK hat ok4 hx hok
   generalize dsAt T cur mt es i = ds at hdA A3 ok1 ok2 ok3 ok5 HDS
   obtain ⟨ln, mn, opn, f⟩ := ds
   dsimp only at hdA A3 ok1 ok2 ok3 ok5
   simp only [escV]
   have x0 : W.cell? ⟨b9, 0, none⟩ = some (.int .i64 (sz : Nat)) := by simp [World.cell?, xb]
   have x1 : W.cell? ⟨b9, 1, none⟩ = some (.int .i64 pt) := by simp [World.cell?, xb]
   have x2 : W.cell? ⟨b9, 2, none⟩ = some (.int .i64 (ft : Nat)) := by simp [World.cell?, xb]
   have cA2 := A2.cell
   have fA2 := A2.frozen
   by_cases hft : ft = 0
   ·subst hft
    obtain ⟨z1, z2⟩ := hfl rfl
    have OK1 := HOK.out rfl
    clear HOK HFL cA2 fA2
    gi_wp2
    have hwf : f <= T.length := ok1
    obtain ⟨va, vk, vq, rfl⟩ := ownsRow_form hdA.c
    have hd1 := hdA.grown (grown_drew W)
    have SM := slice_mid q' T.length c' f at' ok5 (by omega)
    have hIu := ((hIW.below hq' (hbW.trans (grown_below (grown_drew W) |>.mono (hdA.size)))).from c' f hc').take (at' - f)
    obtain ⟨u, hu⟩ : ∃ u, (T.drop f).take (at' - f) = u := ⟨_, rfl⟩
    have hul : at' - f = u.length := by rw [<- hu, List.length_take, List.length_drop]; omega
    rw [hu] at hIu
    have HU : Hid ((T.drop f).take (at' - f) = u) := hu
    clear hu
    generalize (if c' = f then q' else q'.map (·.add f)) = qq at SM hIu
    have hfu : f + u.length <= T.length := by omega
    rw [hul] at SM
    clear hul
    obtain ⟨v2, W2, hr2, ho2, hg2, hl2⟩ := pushX (c' - f) hd1.c hd1.size (by omega) hIu
    obtain ⟨v2a, v2k, v2c, rfl⟩ := ownsRow_form ho2
    have hd2 := hd1.setLine hg2 ho2 hl2
    obtain ⟨c20, c21, c22, c23, g20, g21, g22, g23⟩ := dr_cell (hd1.blkLine hg2)
    obtain ⟨c10, c11, c12, c13, g10, g11, g12, g13⟩ := dr_cell hd1.blk
    have k2 : Kb n0 (s + 1 + 1 + 1 + 1) (s + 1 + 1 + 1 + 1 + 1) W W2 := (Kb.grown (grown_drew W) hdA.size (hdA.xs _ X4).1 (hdA.xs _ X5).1).trans (hd1.kbLine X4 X5 hg2)
    have k3 := k2.trans (hd1.kbD X4 X5 W2 hg2.size (hd1.blkLine hg2) 1 (.slice v2a v2k v2c))
    refine region_picks (fun w' => Boxed w' s 212 (.pointer (some ⟨D, 0, none⟩)) /\ Boxed w' (s + 1) 41 (.slice q' T.length c') /\ Boxed w' (s + 1 + 1 + 1) 3 (.int .i64 (f : Nat)) /\ w'.cell? ⟨D, 1, none⟩ = some (.slice va vk vq)) 12 (by kernel_rfl) ?_
    show Anys _ _ _ _ _ _ _ 13 _ ⟨#[_,_,_,_,_,_,_,_,_,_,_,_,_,_,_,_,_,_,_,_,_,_,_,_,_,_,_,_,_,_,_,_,_,_,_,_,_,_,_,_,_,_,_,_,_,_,_,_,_,_,_,_,_,_,_,_,_,_,_,_,_,_,_,_,_,_,_,_,_,_,_,_,_,_,_,_,_,_,_,_,_,_,_,_,_,_,_,_,_,_,_,_,_,_,_,_,_,_,_,_,_,_,_], []⟩ W.drew
    refine .tl 0 (.pointer (some ⟨D, 0, none⟩)) rfl (fun w hw => by have := hw.1.cell; go_simp) ⟨A0, A1, A3, c11⟩ ?_
    refine .tl 1 (.pointer (some ⟨D, 0, none⟩)) rfl (fun w hw => by have := hw.1.cell; go_simp) ⟨A0, A1, A3, c11⟩ ?_
    refine .tp 2 (.pointer (some ⟨D, 0, none⟩)) ⟨A0, A1, A3, c11⟩ ?_
    refine .tp 3 (.pointer (some ⟨D, 1, none⟩)) ⟨A0, A1, A3, c11⟩ ?_
    refine .tl 4 (.slice va vk vq) rfl (fun w hw => by have := hw.2.2.2; go_simp) ⟨A0, A1, A3, c11⟩ ?_
    refine .tl 5 (.slice q' T.length c') rfl (fun w hw => by have := hw.2.1.cell; go_simp) ⟨A0, A1, A3, c11⟩ ?_
    show Anys _ _ _ _ _ _ _ 7 _ ⟨#[_,_,_,_,_,_,_,_,_,_,_,_,_,_,_,_,_,_,_,_,_,_,_,_,_,_,_,_,_,_,_,_,_,_,_,_,_,_,_,_,_,_,_,_,_,_,_,_,_,_,_,_,_,_,_,_,_,_,_,_,_,_,_,_,_,_,_,_,_,_,_,_,_,_,_,_,_,_,_,_,_,_,_,_,_,_,_,_,_,_,_,_,_,_,_,_,_,_,_,_,_,_,_], []⟩ _
    refine .tl 6 (.int .i64 (f : Nat)) rfl (fun w hw => by have := hw.2.2.1.cell; go_simp) ⟨A0, A1, A3, c11⟩ ?_
    refine .tp 7 (.int .i64 (at' : Nat)) ⟨A0, A1, A3, c11⟩ ?_
    refine .tl 8 (.slice qq u.length (c' - f)) rfl (fun w _ => by have := SM w; go_simp) ⟨A0, A1, A3, c11⟩ ?_
    refine Anys.one (i := 9) (by kernel_rfl) rfl rfl (fun K hK => ?_)
    refine append_in _ _ 41 rfl rfl rfl hr2 ?_
    refine hK _ _ (fun _ => ⟨hd1.boxLine hg2 X0 A0, hd1.boxLine hg2 X1 A1, hd1.boxLine hg2 X3 A3, c21⟩) ?_
    clear hK K
    show Anys _ _ _ _ _ _ _ 3 _ ⟨#[_,_,_,_,_,_,_,_,_,_,_,_,_,_,_,_,_,_,_,_,_,_,_,_,_,_,_,_,_,_,_,_,_,_,_,_,_,_,_,_,_,_,_,_,_,_,_,_,_,_,_,_,_,_,_,_,_,_,_,_,_,_,_,_,_,_,_,_,_,_,_,_,_,_,_,_,_,_,_,_,_,_,_,_,_,_,_,_,_,_,_,_,_,_,_,_,_,_,_,_,_,_,_], []⟩ W2
    refine .tp 10 (.pointer (some ⟨D, 0, none⟩)) ⟨hd1.boxLine hg2 X0 A0, hd1.boxLine hg2 X1 A1, hd1.boxLine hg2 X3 A3, c21⟩ ?_
    refine .tp 11 (.pointer (some ⟨D, 1, none⟩)) ⟨hd1.boxLine hg2 X0 A0, hd1.boxLine hg2 X1 A1, hd1.boxLine hg2 X3 A3, c21⟩ ?_
    refine Anys.one (i := 12) (by kernel_rfl) rfl rfl (fun K hK => ?_)
    refine store_in 41 (by kernel_rfl) rfl rfl rfl rfl c21 g21 ?_
    refine hK _ _ (fun h => (h rfl).elim) ?_
    clear hK K
    show Anys _ _ _ _ _ _ _ 0 _ ⟨#[_,_,_,_,_,_,_,_,_,_,_,_,_,_,_,_,_,_,_,_,_,_,_,_,_,_,_,_,_,_,_,_,_,_,_,_,_,_,_,_,_,_,_,_,_,_,_,_,_,_,_,_,_,_,_,_,_,_,_,_,_,_,_,_,_,_,_,_,_,_,_,_,_,_,_,_,_,_,_,_,_,_,_,_,_,_,_,_,_,_,_,_,_,_,_,_,_,_,_,_,_,_,_], []⟩ (W2.setCell ⟨D, 1, none⟩ (.slice v2a v2k v2c))
    refine Anys.done (by kernel_rfl) ?_
    simp only [nrm]
    have D0 := hd1.boxD 1 (.slice v2a v2k v2c) X0 (hd1.boxLine hg2 X0 A0)
    have D1 := hd1.boxD 1 (.slice v2a v2k v2c) X1 (hd1.boxLine hg2 X1 A1)
    have D2 := hd1.boxD 1 (.slice v2a v2k v2c) X2 (hd1.boxLine hg2 X2 A2)
    have D3 := hd1.boxD 1 (.slice v2a v2k v2c) X3 (hd1.boxLine hg2 X3 A3)
    generalize W2.setCell ⟨D, 1, none⟩ (.slice v2a v2k v2c) = W3 at hd2 k3 D0 D1 D2 D3 |-
    clear hr2 ho2 hg2 hl2 k2 c20 c21 c22 c23 g20 g21 g22 g23 c10 c11 c12 c13 g10 g11 g12 g13 SM hIu
    gi_wp2
    have hd3 := (hd2.grown (grown_drew W3)).grown (grown_new W3.drew (.cells #[.int .i64 92] 3))
    obtain ⟨v4, W4, hr4, ho4, hg4, hl4⟩ := pushY (hd2.grown (grown_drew W3)).c (hd2.grown (grown_drew W3)).size (by rw [List.length_append]; omega) 92
    obtain ⟨v4a, v4k, v4c, rfl⟩ := ownsRow_form ho4
    have hd4 := hd3.setLine hg4 ho4 hl4
    obtain ⟨c40, c41, c42, c43, g40, g41, g42, g43⟩ := dr_cell (hd3.blkLine hg4)
    obtain ⟨c30, c31, c32, c33, g30, g31, g32, g33⟩ := dr_cell hd3.blk
    obtain ⟨e30, e31, e32, e33, _, _, _, _⟩ := dr_cell (hd2.grown (grown_drew W3)).blk
    have k4 : Kb n0 (s + 1 + 1 + 1 + 1) (s + 1 + 1 + 1 + 1 + 1) W W4 := (k3.trans (Kb.grown (grown_trans (grown_drew W3) (grown_new W3.drew (.cells #[.int .i64 92] 3))) hd2.size (hd2.xs _ X4).1 (hd2.xs _ X5).1)).trans (hd3.kbLine X4 X5 hg4)
    have k5 := k4.trans (hd3.kbD X4 X5 W4 hg4.size (hd3.blkLine hg4) 1 (.slice v4a v4k v4c))
    have E0 : Boxed W3.drew s 212 (.pointer (some ⟨D, 0, none⟩)) := D0
    have E0' := E0.alloc (.cells #[.int .i64 92] 3)
    have E1' := (show Boxed W3.drew (s + 1) 41 (.slice q' T.length c') from D1).alloc (.cells #[.int .i64 92] 3)
    have E2' := (show Boxed W3.drew (s + 1 + 1) 28 (.int .i64 0) from D2).alloc (.cells #[.int .i64 92] 3)
    have E3' := (show Boxed W3.drew (s + 1 + 1 + 1) 3 (.int .i64 (f : Nat)) from D3).alloc (.cells #[.int .i64 92] 3)
    refine region_picks (fun w' => Boxed w' s 212 (.pointer (some ⟨D, 0, none⟩)) /\ w'.cell? ⟨D, 1, none⟩ = some (.slice v2a v2k v2c)) 9 (by kernel_rfl) ?_
    show Anys _ _ _ _ _ _ _ 10 _ ⟨#[_,_,_,_,_,_,_,_,_,_,_,_,_,_,_,_,_,_,_,_,_,_,_,_,_,_,_,_,_,_,_,_,_,_,_,_,_,_,_,_,_,_,_,_,_,_,_,_,_,_,_,_,_,_,_,_,_,_,_,_,_,_,_,_,_,_,_,_,_,_,_,_,_,_,_,_,_,_,_,_,_,_,_,_,_,_,_,_,_,_,_,_,_,_,_,_,_,_,_,_,_,_,_], []⟩ W3.drew
    refine .tl 0 (.pointer (some ⟨D, 0, none⟩)) rfl (fun w hw => by have := hw.1.cell; go_simp) ⟨E0, e31⟩ ?_
    refine .tl 1 (.pointer (some ⟨D, 0, none⟩)) rfl (fun w hw => by have := hw.1.cell; go_simp) ⟨E0, e31⟩ ?_
    refine .tp 2 (.pointer (some ⟨D, 0, none⟩)) ⟨E0, e31⟩ ?_
    refine .tp 3 (.pointer (some ⟨D, 1, none⟩)) ⟨E0, e31⟩ ?_
    refine .tl 4 (.slice v2a v2k v2c) rfl (fun w hw => by have := hw.2; go_simp) ⟨E0, e31⟩ ?_
    refine Anys.one (i := 5) (by kernel_rfl) rfl rfl (fun K hK => ?_)
    go_simp
    refine hK _ _ (fun _ => ⟨E0', c31⟩) ?_
    clear hK K
    show Anys _ _ _ _ _ _ _ 4 _ ⟨#[_,_,_,_,_,_,_,_,_,_,_,_,_,_,_,_,_,_,_,_,_,_,_,_,_,_,_,_,_,_,_,_,_,_,_,_,_,_,_,_,_,_,_,_,_,_,_,_,_,_,_,_,_,_,_,_,_,_,_,_,_,_,_,_,_,_,_,_,_,_,_,_,_,_,_,_,_,_,_,_,_,_,_,_,_,_,_,_,_,_,_,_,_,_,_,_,_,_,_,_,_,_,_], []⟩ (W3.drew.alloc (.cells #[.int .i64 92] 3))
    refine Anys.one (i := 6) (by kernel_rfl) rfl rfl (fun K hK => ?_)
    refine append_in _ _ 41 rfl rfl rfl hr4 ?_
    refine hK _ _ (fun _ => ⟨hd3.boxLine hg4 X0 E0', c41⟩) ?_
    clear hK K
    show Anys _ _ _ _ _ _ _ 3 _ ⟨#[_,_,_,_,_,_,_,_,_,_,_,_,_,_,_,_,_,_,_,_,_,_,_,_,_,_,_,_,_,_,_,_,_,_,_,_,_,_,_,_,_,_,_,_,_,_,_,_,_,_,_,_,_,_,_,_,_,_,_,_,_,_,_,_,_,_,_,_,_,_,_,_,_,_,_,_,_,_,_,_,_,_,_,_,_,_,_,_,_,_,_,_,_,_,_,_,_,_,_,_,_,_,_], []⟩ W4
    refine .tp 7 (.pointer (some ⟨D, 0, none⟩)) ⟨hd3.boxLine hg4 X0 E0', c41⟩ ?_
    refine .tp 8 (.pointer (some ⟨D, 1, none⟩)) ⟨hd3.boxLine hg4 X0 E0', c41⟩ ?_
    refine Anys.one (i := 9) (by kernel_rfl) rfl rfl (fun K hK => ?_)
    refine store_in 41 (by kernel_rfl) rfl rfl rfl rfl c41 g41 ?_
    refine hK _ _ (fun h => (h rfl).elim) ?_
    clear hK K
    show Anys _ _ _ _ _ _ _ 0 _ ⟨#[_,_,_,_,_,_,_,_,_,_,_,_,_,_,_,_,_,_,_,_,_,_,_,_,_,_,_,_,_,_,_,_,_,_,_,_,_,_,_,_,_,_,_,_,_,_,_,_,_,_,_,_,_,_,_,_,_,_,_,_,_,_,_,_,_,_,_,_,_,_,_,_,_,_,_,_,_,_,_,_,_,_,_,_,_,_,_,_,_,_,_,_,_,_,_,_,_,_,_,_,_,_,_], []⟩ (W4.setCell ⟨D, 1, none⟩ (.slice v4a v4k v4c))
    refine Anys.done (by kernel_rfl) ?_
    simp only [nrm]
    have F0 := hd3.boxD 1 (.slice v4a v4k v4c) X0 (hd3.boxLine hg4 X0 E0')
    have F1 := hd3.boxD 1 (.slice v4a v4k v4c) X1 (hd3.boxLine hg4 X1 E1')
    have F2 := hd3.boxD 1 (.slice v4a v4k v4c) X2 (hd3.boxLine hg4 X2 E2')
    have F3 := hd3.boxD 1 (.slice v4a v4k v4c) X3 (hd3.boxLine hg4 X3 E3')
    generalize W4.setCell ⟨D, 1, none⟩ (.slice v4a v4k v4c) = W5 at hd4 k5 F0 F1 F2 F3 |-
    clear hr4 ho4 hg4 hl4 k3 k4 c40 c41 c42 c43 g40 g41 g42 g43 c30 c31 c32 c33 g30 g31 g32 g33 e30 e31 e32 e33 hd3 hd2 E0 E0' E1' E2' E3' D0 D1 D2 D3
    gi_wp2
    obtain ⟨ma, mk, mq, rfl⟩ := ownsRow_form hd4.m
    have hd5 := (hd4.grown (grown_drew W5)).grown (grown_new W5.drew (.cells #[.int .i64 pt] 3))
    obtain ⟨v6, W6, hr6, ho6, hg6, hl6⟩ := pushY (hd4.grown (grown_drew W5)).m (hd4.grown (grown_drew W5)).size (by omega) pt
    obtain ⟨v6a, v6k, v6c, rfl⟩ := ownsRow_form ho6
    have hd6 := hd5.setMeant hg6 ho6 hl6
    obtain ⟨c60, c61, c62, c63, g60, g61, g62, g63⟩ := dr_cell (hd5.blkMeant hg6)
    obtain ⟨c50, c51, c52, c53, g50, g51, g52, g53⟩ := dr_cell hd5.blk
    obtain ⟨e50, e51, e52, e53, _, _, _, _⟩ := dr_cell (hd4.grown (grown_drew W5)).blk
    have kd : Kb n0 (s + 1 + 1 + 1 + 1) (s + 1 + 1 + 1 + 1 + 1) W (W5.drew.alloc (.cells #[.int .i64 pt] 3)) := k5.trans (Kb.grown (grown_trans (grown_drew W5) (grown_new W5.drew (.cells #[.int .i64 pt] 3))) hd4.size (hd4.xs _ X4).1 (hd4.xs _ X5).1)
    have k6 := kd.trans (hd5.kbMeant X4 X5 hg6)
    have k7 := k6.trans (hd5.kbD X4 X5 W6 hg6.size (hd5.blkMeant hg6) 3 (.slice v6a v6k v6c))
    have p5 := (show W5.drew.cell? ⟨b9, 1, none⟩ = some (.int .i64 pt) from (show W5.cell? ⟨b9, 1, none⟩ = some (.int .i64 pt) from by have := k5.e.esc b9 _ _ xb; simp [World.cell?, this]))
    have p5' := (show (W5.drew.alloc (.cells #[.int .i64 pt] 3)).cell? ⟨b9, 1, none⟩ = some (.int .i64 pt) from by have := kd.e.esc b9 _ _ xb; simp [World.cell?, this])
    have p6 := (show W6.cell? ⟨b9, 1, none⟩ = some (.int .i64 pt) from by have := k6.e.esc b9 _ _ xb; simp [World.cell?, this])
    have G0 : Boxed W5.drew s 212 (.pointer (some ⟨D, 0, none⟩)) := F0
    have G0' := G0.alloc (.cells #[.int .i64 pt] 3)
    have G1' := (show Boxed W5.drew (s + 1) 41 (.slice q' T.length c') from F1).alloc (.cells #[.int .i64 pt] 3)
    have G2' := (show Boxed W5.drew (s + 1 + 1) 28 (.int .i64 0) from F2).alloc (.cells #[.int .i64 pt] 3)
    have G3' := (show Boxed W5.drew (s + 1 + 1 + 1) 3 (.int .i64 (f : Nat)) from F3).alloc (.cells #[.int .i64 pt] 3)
    refine region_picks (fun w' => Boxed w' s 212 (.pointer (some ⟨D, 0, none⟩)) /\ w'.cell? ⟨D, 3, none⟩ = some (.slice ma mk mq) /\ w'.cell? ⟨b9, 1, none⟩ = some (.int .i64 pt)) 11 (by kernel_rfl) ?_
    show Anys _ _ _ _ _ _ _ 12 _ ⟨#[_,_,_,_,_,_,_,_,_,_,_,_,_,_,_,_,_,_,_,_,_,_,_,_,_,_,_,_,_,_,_,_,_,_,_,_,_,_,_,_,_,_,_,_,_,_,_,_,_,_,_,_,_,_,_,_,_,_,_,_,_,_,_,_,_,_,_,_,_,_,_,_,_,_,_,_,_,_,_,_,_,_,_,_,_,_,_,_,_,_,_,_,_,_,_,_,_,_,_,_,_,_,_], []⟩ W5.drew
    refine .tl 0 (.pointer (some ⟨D, 0, none⟩)) rfl (fun w hw => by have := hw.1.cell; go_simp) ⟨G0, e53, p5⟩ ?_
    refine .tl 1 (.pointer (some ⟨D, 0, none⟩)) rfl (fun w hw => by have := hw.1.cell; go_simp) ⟨G0, e53, p5⟩ ?_
    refine .tp 2 (.pointer (some ⟨D, 0, none⟩)) ⟨G0, e53, p5⟩ ?_
    refine .tp 3 (.pointer (some ⟨D, 3, none⟩)) ⟨G0, e53, p5⟩ ?_
    refine .tl 4 (.slice ma mk mq) rfl (fun w hw => by have := hw.2.1; go_simp) ⟨G0, e53, p5⟩ ?_
    refine .tp 5 (.pointer (some ⟨b9, 1, none⟩)) ⟨G0, e53, p5⟩ ?_
    show Anys _ _ _ _ _ _ _ 6 _ ⟨#[_,_,_,_,_,_,_,_,_,_,_,_,_,_,_,_,_,_,_,_,_,_,_,_,_,_,_,_,_,_,_,_,_,_,_,_,_,_,_,_,_,_,_,_,_,_,_,_,_,_,_,_,_,_,_,_,_,_,_,_,_,_,_,_,_,_,_,_,_,_,_,_,_,_,_,_,_,_,_,_,_,_,_,_,_,_,_,_,_,_,_,_,_,_,_,_,_,_,_,_,_,_,_], []⟩ _
    refine .tl 6 (.int .i64 pt) rfl (fun w hw => by have := hw.2.2; go_simp) ⟨G0, e53, p5⟩ ?_
    refine Anys.one (i := 7) (by kernel_rfl) rfl rfl (fun K hK => ?_)
    go_simp
    refine hK _ _ (fun _ => ⟨G0', c53, p5'⟩) ?_
    clear hK K
    show Anys _ _ _ _ _ _ _ 4 _ ⟨#[_,_,_,_,_,_,_,_,_,_,_,_,_,_,_,_,_,_,_,_,_,_,_,_,_,_,_,_,_,_,_,_,_,_,_,_,_,_,_,_,_,_,_,_,_,_,_,_,_,_,_,_,_,_,_,_,_,_,_,_,_,_,_,_,_,_,_,_,_,_,_,_,_,_,_,_,_,_,_,_,_,_,_,_,_,_,_,_,_,_,_,_,_,_,_,_,_,_,_,_,_,_,_], []⟩ (W5.drew.alloc (.cells #[.int .i64 pt] 3))
    refine Anys.one (i := 8) (by kernel_rfl) rfl rfl (fun K hK => ?_)
    refine append_in _ _ 41 rfl rfl rfl hr6 ?_
    refine hK _ _ (fun _ => ⟨hd5.boxMeant hg6 X0 G0', c63, p6⟩) ?_
    clear hK K
    show Anys _ _ _ _ _ _ _ 3 _ ⟨#[_,_,_,_,_,_,_,_,_,_,_,_,_,_,_,_,_,_,_,_,_,_,_,_,_,_,_,_,_,_,_,_,_,_,_,_,_,_,_,_,_,_,_,_,_,_,_,_,_,_,_,_,_,_,_,_,_,_,_,_,_,_,_,_,_,_,_,_,_,_,_,_,_,_,_,_,_,_,_,_,_,_,_,_,_,_,_,_,_,_,_,_,_,_,_,_,_,_,_,_,_,_,_], []⟩ W6
    refine .tp 9 (.pointer (some ⟨D, 0, none⟩)) ⟨hd5.boxMeant hg6 X0 G0', c63, p6⟩ ?_
    refine .tp 10 (.pointer (some ⟨D, 3, none⟩)) ⟨hd5.boxMeant hg6 X0 G0', c63, p6⟩ ?_
    refine Anys.one (i := 11) (by kernel_rfl) rfl rfl (fun K hK => ?_)
    refine store_in 41 (by kernel_rfl) rfl rfl rfl rfl c63 g63 ?_
    refine hK _ _ (fun h => (h rfl).elim) ?_
    clear hK K
    show Anys _ _ _ _ _ _ _ 0 _ ⟨#[_,_,_,_,_,_,_,_,_,_,_,_,_,_,_,_,_,_,_,_,_,_,_,_,_,_,_,_,_,_,_,_,_,_,_,_,_,_,_,_,_,_,_,_,_,_,_,_,_,_,_,_,_,_,_,_,_,_,_,_,_,_,_,_,_,_,_,_,_,_,_,_,_,_,_,_,_,_,_,_,_,_,_,_,_,_,_,_,_,_,_,_,_,_,_,_,_,_,_,_,_,_,_], []⟩ (W6.setCell ⟨D, 3, none⟩ (.slice v6a v6k v6c))
    refine Anys.done (by kernel_rfl) ?_
    simp only [nrm]
    have H0 := hd5.boxD 3 (.slice v6a v6k v6c) X0 (hd5.boxMeant hg6 X0 G0')
    have H1 := hd5.boxD 3 (.slice v6a v6k v6c) X1 (hd5.boxMeant hg6 X1 G1')
    have H2 := hd5.boxD 3 (.slice v6a v6k v6c) X2 (hd5.boxMeant hg6 X2 G2')
    have H3 := hd5.boxD 3 (.slice v6a v6k v6c) X3 (hd5.boxMeant hg6 X3 G3')
    have xb7 := k7.e.esc b9 _ _ xb
    generalize W6.setCell ⟨D, 3, none⟩ (.slice v6a v6k v6c) = W7 at hd6 k7 H0 H1 H2 H3 xb7 |-
    clear hr6 ho6 hg6 hl6 k5 kd k6 c60 c61 c62 c63 g60 g61 g62 g63 c50 c51 c52 c53 g50 g51 g52 g53 e50 e51 e52 e53 hd5 hd4 G0 G0' G1' G2' G3' F0 F1 F2 F3 p5 p5' p6 x0 x1 x2 xb
    have hne : b9 ≠ D := by rintro rfl; rw [hd6.blk] at xb7; cases xb7
    have q0 : ∀ v, (W7.setCell ⟨D, 2, none⟩ v).cell? ⟨b9, 0, none⟩ = some (.int .i64 (sz : Nat)) := fun v => by rw [World.cell?_of_block (w := W7) ((set_row W7 ⟨D, 2, none⟩ v).block b9 (Array.getElem?_eq_some_iff.1 xb7).1 (fun e => hne (by cases e; rfl)))]; simp [World.cell?, xb7]
    have q1 : W7.cell? ⟨b9, 1, none⟩ = some (.int .i64 pt) := by simp [World.cell?, xb7]
    have q3 : ∀ v, (W7.setCell ⟨D, 2, none⟩ v).cell? ⟨s + 1 + 1 + 1, 0, none⟩ = some (.int .i64 (f : Nat)) := fun v => (hd6.boxD 2 v X3 H3).cell
    have fq3 : ∀ v, (W7.setCell ⟨D, 2, none⟩ v).frozen? ⟨s + 1 + 1 + 1, 0, none⟩ = false := fun v => (hd6.boxD 2 v X3 H3).frozen
    obtain ⟨d0, d1, d2, d3, h0, h1, h2, h3⟩ := dr_cell hd6.blk
    have cH0 := H0.cell
    have ew := wrapi' ((at' : Int) + (sz : Int)) (by omega) (by omega)
    have FIN := fun a => round_fin a hd6 H0 H1 H2 H3 X0 X1 X2 X3 X4 X5 hns k7 hbW HDS.out HU.out OK1 W0.heap.size
    clear hd6 H0 H1 H2 H3 k7 xb7 HDS HU OK1
    gi_wp2
    exact FIN _
   ·have hft' : ((ft : Int) == 0) = false := by simpa using hft
    have hft2 : ¬ (ft : Int) = 0 := by omega
    have FIN := fun a => round_ret (i := i) (T := T) (cur := cur) (mt := mt) (sl := .slice q' T.length c') a hdA A2 X4 X5 hns hbW hft (HFL.out hft) W0.heap.size
    clear HOK HFL HDS hdA A0 A1 A2 A3 xb
    gi_wp2
    exact FIN _
  case done =>
   clear SQ hdW w0 w1 w2 w3 w4 w5
   rintro DD W hDD ⟨⟨vc, vm, hdA⟩, hok, A0, A1, A2, A3, hbW⟩ hK
   obtain ⟨ok1, ok2, ok3, -⟩ := DK es.length (Nat.le_refl _) hok
   have HF : Hid (faultOf es = 0) := faultOf_none (fun j y hj hy => hok j y hj hy)
   clear DK hat hok
   generalize dsAt T cur mt es es.length = ds at hdA A3 ok1 ok2 ok3 HAP
   obtain ⟨ln, mn, opn, f⟩ := ds
   dsimp only at hdA A3 ok1 ok2 ok3 HAP
   gi_wp2
   obtain ⟨va, vk, vq, rfl⟩ := ownsRow_form hdA.c
   have hd1 := hdA.grown (grown_drew W)
   have SM := slice_from q' T.length c' f ok1 hc'
   have hIu := (hIW.below hq' (hbW.trans (grown_below (grown_drew W) |>.mono (hdA.size)))).from c' f hc'
   obtain ⟨u, hu⟩ : ∃ u, T.drop f = u := ⟨_, rfl⟩
   have hul : T.length - f = u.length := by rw [<- hu, List.length_drop]
   rw [hu] at hIu HAP
   clear hu
   generalize (if c' = f then q' else q'.map (·.add f)) = qq at SM hIu
   have hfu : f + u.length <= T.length := by omega
   rw [hul] at SM
   clear hul
   obtain ⟨v2, W2, hr2, ho2, hg2, hl2⟩ := pushX (c' - f) hd1.c hd1.size (by omega) hIu
   obtain ⟨v2a, v2k, v2c, rfl⟩ := ownsRow_form ho2
   have hd2 := hd1.setLine hg2 ho2 hl2
   obtain ⟨c20, c21, c22, c23, g20, g21, g22, g23⟩ := dr_cell (hd1.blkLine hg2)
   obtain ⟨c10, c11, c12, c13, g10, g11, g12, g13⟩ := dr_cell hd1.blk
   have k2 : Kb n0 (s + 1 + 1 + 1 + 1) (s + 1 + 1 + 1 + 1 + 1) W W2 := (Kb.grown (grown_drew W) hdA.size (hdA.xs _ X4).1 (hdA.xs _ X5).1).trans (hd1.kbLine X4 X5 hg2)
   have k3 := k2.trans (hd1.kbD X4 X5 W2 hg2.size (hd1.blkLine hg2) 1 (.slice v2a v2k v2c))
   refine region_picks (fun w' => Boxed w' s 212 (.pointer (some ⟨D, 0, none⟩)) /\ Boxed w' (s + 1) 41 (.slice q' T.length c') /\ Boxed w' (s + 1 + 1 + 1) 3 (.int .i64 (f : Nat)) /\ w'.cell? ⟨D, 1, none⟩ = some (.slice va vk vq)) 11 (by kernel_rfl) ?_
   show Anys _ _ _ _ _ _ _ 12 _ ⟨#[_,_,_,_,_,_,_,_,_,_,_,_,_,_,_,_,_,_,_,_,_,_,_,_,_,_,_,_,_,_,_,_,_,_,_,_,_,_,_,_,_,_,_,_,_,_,_,_,_,_,_,_,_,_,_,_,_,_,_,_,_,_,_,_,_,_,_,_,_,_,_,_,_,_,_,_,_,_,_,_,_,_,_,_,_,_,_,_,_,_,_,_,_,_,_,_,_,_,_,_,_,_,_], [{ target := .collected DD, args := #[] }]⟩ W.drew
   refine .tl 0 (.pointer (some ⟨D, 0, none⟩)) rfl (fun w hw => by have := hw.1.cell; go_simp) ⟨A0, A1, A3, c11⟩ ?_
   refine .tl 1 (.pointer (some ⟨D, 0, none⟩)) rfl (fun w hw => by have := hw.1.cell; go_simp) ⟨A0, A1, A3, c11⟩ ?_
   refine .tp 2 (.pointer (some ⟨D, 0, none⟩)) ⟨A0, A1, A3, c11⟩ ?_
   refine .tp 3 (.pointer (some ⟨D, 1, none⟩)) ⟨A0, A1, A3, c11⟩ ?_
   refine .tl 4 (.slice va vk vq) rfl (fun w hw => by have := hw.2.2.2; go_simp) ⟨A0, A1, A3, c11⟩ ?_
   refine .tl 5 (.slice q' T.length c') rfl (fun w hw => by have := hw.2.1.cell; go_simp) ⟨A0, A1, A3, c11⟩ ?_
   show Anys _ _ _ _ _ _ _ 6 _ ⟨#[_,_,_,_,_,_,_,_,_,_,_,_,_,_,_,_,_,_,_,_,_,_,_,_,_,_,_,_,_,_,_,_,_,_,_,_,_,_,_,_,_,_,_,_,_,_,_,_,_,_,_,_,_,_,_,_,_,_,_,_,_,_,_,_,_,_,_,_,_,_,_,_,_,_,_,_,_,_,_,_,_,_,_,_,_,_,_,_,_,_,_,_,_,_,_,_,_,_,_,_,_,_,_], [{ target := .collected DD, args := #[] }]⟩ _
   refine .tl 6 (.int .i64 (f : Nat)) rfl (fun w hw => by have := hw.2.2.1.cell; go_simp) ⟨A0, A1, A3, c11⟩ ?_
   refine .tl 7 (.slice qq u.length (c' - f)) rfl (fun w _ => by have := SM w; go_simp) ⟨A0, A1, A3, c11⟩ ?_
   refine Anys.one (i := 8) (by kernel_rfl) rfl rfl (fun K hK' => ?_)
   refine append_in _ _ 41 rfl rfl rfl hr2 ?_
   refine hK' _ _ (fun _ => ⟨hd1.boxLine hg2 X0 A0, hd1.boxLine hg2 X1 A1, hd1.boxLine hg2 X3 A3, c21⟩) ?_
   clear hK' K
   show Anys _ _ _ _ _ _ _ 3 _ ⟨#[_,_,_,_,_,_,_,_,_,_,_,_,_,_,_,_,_,_,_,_,_,_,_,_,_,_,_,_,_,_,_,_,_,_,_,_,_,_,_,_,_,_,_,_,_,_,_,_,_,_,_,_,_,_,_,_,_,_,_,_,_,_,_,_,_,_,_,_,_,_,_,_,_,_,_,_,_,_,_,_,_,_,_,_,_,_,_,_,_,_,_,_,_,_,_,_,_,_,_,_,_,_,_], [{ target := .collected DD, args := #[] }]⟩ W2
   refine .tp 9 (.pointer (some ⟨D, 0, none⟩)) ⟨hd1.boxLine hg2 X0 A0, hd1.boxLine hg2 X1 A1, hd1.boxLine hg2 X3 A3, c21⟩ ?_
   refine .tp 10 (.pointer (some ⟨D, 1, none⟩)) ⟨hd1.boxLine hg2 X0 A0, hd1.boxLine hg2 X1 A1, hd1.boxLine hg2 X3 A3, c21⟩ ?_
   refine Anys.one (i := 11) (by kernel_rfl) rfl rfl (fun K hK' => ?_)
   refine store_in 41 (by kernel_rfl) rfl rfl rfl rfl c21 g21 ?_
   refine hK' _ _ (fun h => (h rfl).elim) ?_
   clear hK' K
   show Anys _ _ _ _ _ _ _ 0 _ ⟨#[_,_,_,_,_,_,_,_,_,_,_,_,_,_,_,_,_,_,_,_,_,_,_,_,_,_,_,_,_,_,_,_,_,_,_,_,_,_,_,_,_,_,_,_,_,_,_,_,_,_,_,_,_,_,_,_,_,_,_,_,_,_,_,_,_,_,_,_,_,_,_,_,_,_,_,_,_,_,_,_,_,_,_,_,_,_,_,_,_,_,_,_,_,_,_,_,_,_,_,_,_,_,_], [{ target := .collected DD, args := #[] }]⟩ (W2.setCell ⟨D, 1, none⟩ (.slice v2a v2k v2c))
   refine Anys.done (by kernel_rfl) ?_
   simp only [nrm]
   have D0 := hd1.boxD 1 (.slice v2a v2k v2c) X0 (hd1.boxLine hg2 X0 A0)
   have D2 := hd1.boxD 1 (.slice v2a v2k v2c) X2 (hd1.boxLine hg2 X2 A2)
   generalize W2.setCell ⟨D, 1, none⟩ (.slice v2a v2k v2c) = W3 at hd2 k3 D0 D2 |-
   clear hr2 ho2 hg2 hl2 k2 c20 c21 c22 c23 g20 g21 g22 g23 c10 c11 c12 c13 g10 g11 g12 g13 SM hIu A0 A1 A2 A3
   obtain ⟨d0, d1, d2, d3, h0, h1, h2, h3⟩ := dr_cell hd2.blk
   have cD0 := D0.cell
   have cD2 := D2.cell
   have fD2 := D2.frozen
   have hK3 := k3.o.same DD _ hK rfl
   have hb3 := hbw.trans (hbW.trans k3.e.below)
   cases opn with
   | true =>
    gi_wp2
    have hK4 := (KeepsOthers.setCell W3 ⟨s + 1 + 1, 0, none⟩ (.int .i64 0)).same DD _ hK3 rfl
    refine ⟨by simp, .inl ⟨_, _, rfl, run_takeDeferred hK4, ?_⟩⟩
    have hd4 := (hd2.setX (a := ⟨s + 1 + 1, 0, none⟩) X2 (.int .i64 0)).kept (grownBy_putObj' _ DD (.deferred none)) (fun r e => by cases e; exact .inr ⟨_, hK4, rfl⟩)
    have D4 := boxed_row (D2.set (.int .i64 0)) (grownBy_putObj' _ DD (.deferred none)) (fun r e => by cases e; exact ⟨_, hK4, rfl⟩)
    have hb4 : Below n0 w ((W3.setCell ⟨s + 1 + 1, 0, none⟩ (.int .i64 0)).putObj DD (.deferred none)) := (hb3.setCell (p := ⟨s + 1 + 1, 0, none⟩) (by show n0 <= s + 1 + 1; omega) _).trans ((Below.refl n0 _).grown (grownBy_putObj' _ DD (.deferred none)) (Nat.le_trans hd4.size (by simp)) (fun k e => by cases e; omega))
    have fin := hd4.less hless
    exact ⟨_, results_box rfl rfl D4, hb4, (HAP.out _ _).2 (.inr ⟨HF.out, rfl, vl, .slice v2a v2k v2c, vm, R, (by simpa using fin), by simp⟩)⟩
   | false =>
    gi_wp2
    obtain ⟨ll, hll⟩ : ∃ ll, ln ++ u = ll := ⟨_, rfl⟩
    rw [hll] at hd2 HAP
    clear hll
    obtain ⟨la, lk, lq, rfl⟩ := ownsRow_form hd2.l
    have hvk : v2k = ll.length := by have := (is_of_row hd2.c).2.1; exact this
    subst hvk
    have hd2' := hd2.grown (grown_drew W3)
    have hd5 := hd2'.grown (grown_new W3.drew (.cells #[.slice v2a ll.length v2c] 41))
    obtain ⟨g6, cap6, W6, hr6, ho6, hg6, hl6⟩ := pushM_run hd2'.l hd2'.size (by omega) ⟨v2a, ll, v2c⟩
    have hl6' : ∀ g, (Value.slice (some ⟨g6, 0, none⟩) (R.length + 1) cap6).ownBlock = some g -> (Value.slice la lk lq).ownBlock = some g \/ (W3.drew.alloc (.cells #[.slice v2a ll.length v2c] 41)).heap.size <= g := fun g e => by
     cases e
     rcases hl6 with h | h
     ·exact .inl h
     ·exact .inr (by rw [World.size_alloc]; show _ <= g6; omega)
    have hd6 := hd5.pushRow hg6 ho6 hl6'
    obtain ⟨c60, c61, c62, c63, g60, g61, g62, g63⟩ := dr_cell (hd5.blkL hg6)
    obtain ⟨c50, c51, c52, c53, g50, g51, g52, g53⟩ := dr_cell hd5.blk
    obtain ⟨e50, e51, e52, e53, _, _, _, _⟩ := dr_cell hd2'.blk
    have kl : Kb n0 (s + 1 + 1 + 1 + 1) (s + 1 + 1 + 1 + 1 + 1) W W6 := (k3.trans (Kb.grown (grown_trans (grown_drew W3) (grown_new W3.drew (.cells #[.slice v2a ll.length v2c] 41))) hd2.size (hd2.xs _ X4).1 (hd2.xs _ X5).1)).trans (hd5.kbL X4 X5 hg6)
    have G0 : Boxed W3.drew s 212 (.pointer (some ⟨D, 0, none⟩)) := D0
    have G0' := G0.alloc (.cells #[.slice v2a ll.length v2c] 41)
    have G2' := (show Boxed W3.drew (s + 1 + 1) 28 (.int .i64 0) from D2).alloc (.cells #[.slice v2a ll.length v2c] 41)
    have hr6' : (Builtin.append_ #[73, 73] 73 #[.slice la lk lq, .slice (some ⟨W3.heap.size, 0, none⟩) 1 1]).run Tryz.prog (W3.drew.alloc (.cells #[.slice v2a ll.length v2c] 41)) = .ok (.slice (some ⟨g6, 0, none⟩) (R.length + 1) cap6) W6 := hr6
    refine region_picks (fun w' => Boxed w' s 212 (.pointer (some ⟨D, 0, none⟩)) /\ w'.cell? ⟨D, 0, none⟩ = some (.slice la lk lq) /\ w'.cell? ⟨D, 1, none⟩ = some (.slice v2a ll.length v2c)) 13 (by kernel_rfl) ?_
    show Anys _ _ _ _ _ _ _ 14 _ ⟨#[_,_,_,_,_,_,_,_,_,_,_,_,_,_,_,_,_,_,_,_,_,_,_,_,_,_,_,_,_,_,_,_,_,_,_,_,_,_,_,_,_,_,_,_,_,_,_,_,_,_,_,_,_,_,_,_,_,_,_,_,_,_,_,_,_,_,_,_,_,_,_,_,_,_,_,_,_,_,_,_,_,_,_,_,_,_,_,_,_,_,_,_,_,_,_,_,_,_,_,_,_,_,_], [{ target := .collected DD, args := #[] }]⟩ W3.drew
    refine .tl 0 (.pointer (some ⟨D, 0, none⟩)) rfl (fun w hw => by have := hw.1.cell; go_simp) ⟨G0, e50, e51⟩ ?_
    refine .tl 1 (.pointer (some ⟨D, 0, none⟩)) rfl (fun w hw => by have := hw.1.cell; go_simp) ⟨G0, e50, e51⟩ ?_
    refine .tp 2 (.pointer (some ⟨D, 0, none⟩)) ⟨G0, e50, e51⟩ ?_
    refine .tp 3 (.pointer (some ⟨D, 0, none⟩)) ⟨G0, e50, e51⟩ ?_
    refine .tl 4 (.slice la lk lq) rfl (fun w hw => by have := hw.2.1; go_simp) ⟨G0, e50, e51⟩ ?_
    refine .tl 5 (.pointer (some ⟨D, 0, none⟩)) rfl (fun w hw => by have := hw.1.cell; go_simp) ⟨G0, e50, e51⟩ ?_
    show Anys _ _ _ _ _ _ _ 8 _ ⟨#[_,_,_,_,_,_,_,_,_,_,_,_,_,_,_,_,_,_,_,_,_,_,_,_,_,_,_,_,_,_,_,_,_,_,_,_,_,_,_,_,_,_,_,_,_,_,_,_,_,_,_,_,_,_,_,_,_,_,_,_,_,_,_,_,_,_,_,_,_,_,_,_,_,_,_,_,_,_,_,_,_,_,_,_,_,_,_,_,_,_,_,_,_,_,_,_,_,_,_,_,_,_,_], [{ target := .collected DD, args := #[] }]⟩ _
    refine .tp 6 (.pointer (some ⟨D, 0, none⟩)) ⟨G0, e50, e51⟩ ?_
    refine .tp 7 (.pointer (some ⟨D, 1, none⟩)) ⟨G0, e50, e51⟩ ?_
    refine .tl 8 (.slice v2a ll.length v2c) rfl (fun w hw => by have := hw.2.2; go_simp) ⟨G0, e50, e51⟩ ?_
    refine Anys.one (i := 9) (by kernel_rfl) rfl rfl (fun K hK' => ?_)
    go_simp
    refine hK' _ _ (fun _ => ⟨G0', c50, c51⟩) ?_
    clear hK' K
    show Anys _ _ _ _ _ _ _ 4 _ ⟨#[_,_,_,_,_,_,_,_,_,_,_,_,_,_,_,_,_,_,_,_,_,_,_,_,_,_,_,_,_,_,_,_,_,_,_,_,_,_,_,_,_,_,_,_,_,_,_,_,_,_,_,_,_,_,_,_,_,_,_,_,_,_,_,_,_,_,_,_,_,_,_,_,_,_,_,_,_,_,_,_,_,_,_,_,_,_,_,_,_,_,_,_,_,_,_,_,_,_,_,_,_,_,_], [{ target := .collected DD, args := #[] }]⟩ (W3.drew.alloc (.cells #[.slice v2a ll.length v2c] 41))
    refine Anys.one (i := 10) (by kernel_rfl) rfl rfl (fun K hK' => ?_)
    refine append_in _ _ 73 rfl rfl rfl hr6' ?_
    refine hK' _ _ (fun _ => ⟨hd5.boxL hg6 X0 G0', c60, c61⟩) ?_
    clear hK' K
    show Anys _ _ _ _ _ _ _ 3 _ ⟨#[_,_,_,_,_,_,_,_,_,_,_,_,_,_,_,_,_,_,_,_,_,_,_,_,_,_,_,_,_,_,_,_,_,_,_,_,_,_,_,_,_,_,_,_,_,_,_,_,_,_,_,_,_,_,_,_,_,_,_,_,_,_,_,_,_,_,_,_,_,_,_,_,_,_,_,_,_,_,_,_,_,_,_,_,_,_,_,_,_,_,_,_,_,_,_,_,_,_,_,_,_,_,_], [{ target := .collected DD, args := #[] }]⟩ W6
    refine .tp 11 (.pointer (some ⟨D, 0, none⟩)) ⟨hd5.boxL hg6 X0 G0', c60, c61⟩ ?_
    refine .tp 12 (.pointer (some ⟨D, 0, none⟩)) ⟨hd5.boxL hg6 X0 G0', c60, c61⟩ ?_
    refine Anys.one (i := 13) (by kernel_rfl) rfl rfl (fun K hK' => ?_)
    refine store_in 73 (by kernel_rfl) rfl rfl rfl rfl c60 g60 ?_
    refine hK' _ _ (fun h => (h rfl).elim) ?_
    clear hK' K
    show Anys _ _ _ _ _ _ _ 0 _ ⟨#[_,_,_,_,_,_,_,_,_,_,_,_,_,_,_,_,_,_,_,_,_,_,_,_,_,_,_,_,_,_,_,_,_,_,_,_,_,_,_,_,_,_,_,_,_,_,_,_,_,_,_,_,_,_,_,_,_,_,_,_,_,_,_,_,_,_,_,_,_,_,_,_,_,_,_,_,_,_,_,_,_,_,_,_,_,_,_,_,_,_,_,_,_,_,_,_,_,_,_,_,_,_,_], [{ target := .collected DD, args := #[] }]⟩ (W6.setCell ⟨D, 0, none⟩ (.slice (some ⟨g6, 0, none⟩) (R.length + 1) cap6))
    refine Anys.done (by kernel_rfl) ?_
    simp only [nrm]
    have b7 := setCell_blk (hd5.blkL hg6) 0 (.slice (some ⟨g6, 0, none⟩) (R.length + 1) cap6)
    have k7 := kl.trans (hd5.kbD X4 X5 W6 hg6.size (hd5.blkL hg6) 0 (.slice (some ⟨g6, 0, none⟩) (R.length + 1) cap6))
    have H0 := hd5.boxD 0 (.slice (some ⟨g6, 0, none⟩) (R.length + 1) cap6) X0 (hd5.boxL hg6 X0 G0')
    have H2 := hd5.boxD 0 (.slice (some ⟨g6, 0, none⟩) (R.length + 1) cap6) X2 (hd5.boxL hg6 X2 G2')
    have s7 : W6.heap.size <= (W6.setCell ⟨D, 0, none⟩ (.slice (some ⟨g6, 0, none⟩) (R.length + 1) cap6)).heap.size := (set_row _ _ _).size
    generalize W6.setCell ⟨D, 0, none⟩ (.slice (some ⟨g6, 0, none⟩) (R.length + 1) cap6) = W7 at hd6 b7 k7 H0 H2 s7 |-
    have k8 := k7.trans (hd5.kbD X4 X5 W7 (Nat.le_trans hg6.size s7) b7 1 (.slice none 0 0))
    have J2 := hd5.boxD 1 (.slice none 0 0) X2 H2
    have y1 : W7.cell? ⟨D, 1, none⟩ = some (.slice v2a ll.length v2c) := by simp [World.cell?, b7]
    have y2 : W7.frozen? ⟨D, 1, none⟩ = false := by simp [World.frozen?, b7]
    have cH0 := H0.cell
    have cJ2 := J2.cell
    have fJ2 := J2.frozen
    have hK8 := k8.o.same DD _ hK rfl
    have hb8 := hbw.trans (hbW.trans k8.e.below)
    clear hr6 hr6' ho6 hg6 hl6 hl6' c60 c61 c62 c63 g60 g61 g62 g63 c50 c51 c52 c53 g50 g51 g52 g53 e50 e51 e52 e53 hd5 hd2 hd2' G0 G0' G2' d0 d1 d2 d3 h0 h1 h2 h3 cD0 cD2 fD2 D0 D2 hK3 hb3 k3 k7 kl b7 H0 H2
    gi_wp2
    generalize W7.setCell ⟨D, 1, none⟩ (.slice none 0 0) = W8 at hd6 k8 J2 hK8 hb8 |-
    have hK4 := (KeepsOthers.setCell W8 ⟨s + 1 + 1, 0, none⟩ (.int .i64 0)).same DD _ hK8 rfl
    refine ⟨by simp, .inl ⟨_, _, rfl, run_takeDeferred hK4, ?_⟩⟩
    have hd4 := (hd6.setX (a := ⟨s + 1 + 1, 0, none⟩) X2 (.int .i64 0)).kept (grownBy_putObj' _ DD (.deferred none)) (fun r e => by cases e; exact .inr ⟨_, hK4, rfl⟩)
    have D4 := boxed_row (J2.set (.int .i64 0)) (grownBy_putObj' _ DD (.deferred none)) (fun r e => by cases e; exact ⟨_, hK4, rfl⟩)
    have hb4 : Below n0 w ((W8.setCell ⟨s + 1 + 1, 0, none⟩ (.int .i64 0)).putObj DD (.deferred none)) := (hb8.setCell (p := ⟨s + 1 + 1, 0, none⟩) (by show n0 <= s + 1 + 1; omega) _).trans ((Below.refl n0 _).grown (grownBy_putObj' _ DD (.deferred none)) (Nat.le_trans hd4.size (by simp)) (fun k e => by cases e; omega))
    have fin := hd4.less hless
    exact ⟨_, results_box rfl rfl D4, hb4, (HAP.out _ _).2 (.inr ⟨HF.out, rfl, .slice (some ⟨g6, 0, none⟩) (R.length + 1) cap6, .slice none 0 0, vm, R ++ [⟨v2a, ll, v2c⟩], (by simpa using fin), by simp⟩)⟩
  case stop =>
   clear SQ hdW w0 w1 w2 w3 w4 w5
   rintro DD cd i W hDD ⟨rfl, hf, hbx, hbW⟩ hK
   gi_wp2
   refine ⟨by simp, .inl ⟨_, _, rfl, run_takeDeferred hK, ?_⟩⟩
   have D4 := boxed_row hbx (grownBy_putObj' _ DD (.deferred none)) (fun r e => by cases e; exact ⟨_, hK, rfl⟩)
   have hb4 : Below n0 w (W.putObj DD (.deferred none)) := (hbw.trans hbW).trans ((Below.refl n0 _).grown (grownBy_putObj' _ DD (.deferred none)) (by have := (Array.getElem?_eq_some_iff.1 hK).1; omega) (fun k e => by cases e; omega))
   exact ⟨_, results_box rfl rfl D4, hb4, (HAP.out _ _).2 (.inl ⟨hf, rfl⟩)⟩
end Go.Proofs.YtipbhdhiklmieaaGreatDoor.P7
