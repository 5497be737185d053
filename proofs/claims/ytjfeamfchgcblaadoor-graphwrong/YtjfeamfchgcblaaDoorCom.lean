/- The iterator comings, as it runs. -/
import Derived.Test.YtjfeamfchgcblaaDoorEnt
import Derived.Test.YtjfeamfchgcblaaDoorGre
import Derived.Sort.LoopGhostIn
import Derived.BigRegionIn
set_option linter.all false
set_option maxRecDepth 100000
namespace Go.Proofs.YtjfeamfchgcblaaDoor
open Go.RowKit Go.Shelf
attribute [local go_sem] Oper.semAt_some

def pl (P : List Vs) : List (Int × List Int) := P.map fun x => (x.n, x.r)
def encK (x : Int × Nat) : Array Value := #[.int .i64 x.1, .int .u8 (x.2 : Nat)]
/-- What comings looks at. -/
def RK (w0 : World) (Br Bg b : Nat) : Prop := b < w0.heap.size ∨ b = Br ∨ b = Bg
/-- What comings has of its own. -/
def XS (B4 sb B5 : Nat) (vp : Value) (b : Nat) : Prop := b = B4 ∨ b = sb ∨ b = B5 ∨ vp.ownBlock = some b
theorem Tryd.info45 : (Tryd.prog.info? 45).map (fun i => (i.zero, i.size, i.bytes)) = some (some (.int .u8 0), 1, 1) := by kernel_rfl
/-- So many nodes that are not met. -/
theorem make_stands (n : Nat) (hn : n ≤ 1000000) (w : World) : ∃ w', (Instr.makeSlice 50 (.int .i64 (n : Int)) (.int .i64 (n : Int))).run Tryd.prog w = .ok (.slice (some ⟨w.heap.size, 0, none⟩) n n) w' ∧ w'.heap[w.heap.size]? = some (.cells ((List.replicate n 0).map u8V).toArray 45) ∧ Below w.heap.size w w' ∧ w.heap.size < w'.heap.size := by
  obtain ⟨i0, hi, hz0, hz1, hz2⟩ := info_parts Tryd.info45
  obtain ⟨w', h1, h2, h3⟩ := run_make_full (P := Tryd.prog) w w.heap.size 50 45 i0 (.int .u8 0) 1 Tryd.underlying50 hi hz0 hz1 .i64 .i64 n (by rw [hz2]; omega) (by unfold maxLen; omega) (Nat.le_refl _)
  obtain ⟨a1, ⟨e, -⟩ | ⟨g, cap, cur, e, b1, b2, b3, b4, b5, b6⟩⟩ := h2
  · cases e
  · simp only [Value.slice.injEq, Option.some.injEq, Addr.mk.injEq] at e
    obtain ⟨⟨rfl, -, -⟩, -, rfl⟩ := e
    refine ⟨w', h1, ?_, ⟨h3.os, h3.tape, h3.output, h3.size, fun k hk => h3.block k hk (by simp)⟩, (Array.getElem?_eq_some_iff.1 b2).1⟩
    rw [b2]
    have hcur : cur = ((List.replicate n 0).map u8V).toArray := by
      apply Array.ext'
      rw [List.take_of_length_le (by simp; omega)] at b6
      rw [b6]
      unfold madeCells
      apply List.ext_getElem
      · simp
      · intro i h1 h2
        simp [Value.cells, u8V]
        rw [Nat.mod_one]
        rfl
    rw [hcur]
/-- What holds at the head of comings' loop. -/
structure CL (w0 : World) (G : List Gn) (T : List (Int × Nat)) (J : (Nat → Prop) → Nat → World → Prop) (N B4 sb B5 Bg c : Nat) (p : Option Addr) (v2 : Value) (S : List Nat) (P : List Vs) (vp : Value) (i : Nat) (w : World) : Prop where
  cs : CS N B4 sb B5 Bg G.length c p v2 S P vp w
  j : J (XS B4 sb B5 vp) i w
  ok : Okp G S (pl P)
  t : T.drop i = cmE G S (pl P)
  ti : i ≤ T.length
  vs : ∀ x ∈ P, Is w0 x.q x.r ∧ x.r.length ≤ x.c ∧ x.c ≤ maxLen
  lo : Lo w0 w
  nw : N ≤ w.heap.size
/-- Where all of it lies. -/
structure CN (w0 : World) (N B4 sb B5 : Nat) : Prop where
  a : w0.heap.size ≤ N
  b : N ≤ B4
  c : N ≤ sb
  d : N ≤ B5
theorem CS.entered {N B4 sb B5 Bg nG c : Nat} {p : Option Addr} {v2 : Value} {S' : List Nat} {P' : List Vs} {vp : Value} {w w' : World} {B0 i g k cap : Nat} {J : (Nat → Prop) → Nat → World → Prop} {X : Nat → Prop} (hA : Abo B0 J) (hj : J X i w) (hX : ∀ b, XS B4 sb B5 vp b → X b) (ht : Trk (CX sb B5 vp) w w')
    (hc : CS N B4 sb B5 Bg nG c p v2 S' P' (.slice (some ⟨g, 0, none⟩) k cap) w') (ho : vp.ownBlock = some g ∨ w.heap.size ≤ g) : J (XS B4 sb B5 (.slice (some ⟨g, 0, none⟩) k cap)) i w' := by
  refine hA.less _ _ _ _ ((ht.more fun b hb => hX b (.inr hb)).abo hA hj) (fun b hb => ?_)
  rcases hb with rfl | rfl | rfl | hb
  · exact .inl (hX _ (.inl rfl))
  · exact .inl (hX _ (.inr (.inl rfl)))
  · exact .inl (hX _ (.inr (.inr (.inl rfl))))
  · have hlt := (hc.row hb).2.1
    cases hb
    exact ho.imp (fun e => hX _ (.inr (.inr (.inr e)))) (fun e => ⟨e, hlt⟩)
theorem cm_small {G : List Gn} {S : List Nat} {r : Int} (hn : G.length ≤ 1000) (hs : sumK G ≤ 20000) (hS : S.length = G.length) : cmM G S [(r, kdN G r)] ≤ 100000 := by
  have h1 := left_le G (sn S) (by rw [sn_length]; exact hS)
  have h2 : (kdN G r).length ≤ 20000 := by
    unfold kdN
    by_cases hr : r.toNat < G.length
    · have h3 := sumK_step (G := G) (i := r.toNat) hr
      have h4 := sumK_take G (r.toNat + 1)
      omega
    · unfold gAt
      rw [List.getElem?_eq_none (by omega)]
      simp
  unfold cmM cmP
  simp
  omega
theorem pl_le {G : List Gn} {S : List Nat} {P : List Vs} {k : Nat} (h : cmM G S (pl P) < k) : P.length < k := by
  have : P.length ≤ cmP (pl P) := by
    clear h
    unfold cmP pl
    induction P with
    | nil => simp
    | cons x P ih => simp at ih ⊢; omega
  unfold cmM at h
  omega
section
variable {w0 w w' : World} {G : List Gn} {T : List (Int × Nat)} {J : (Nat → Prop) → Nat → World → Prop} {N B4 sb B5 Bg c i B0 : Nat} {p : Option Addr} {v2 : Value} {S : List Nat} {P : List Vs} {vp : Value}
theorem CL.on (hA : Abo B0 J) (h : CL w0 G T J N B4 sb B5 Bg c p v2 S P vp i w) (hb : Below w.heap.size w w') : CL w0 G T J N B4 sb B5 Bg c p v2 S P vp i w' := by
  obtain ⟨l1, l2, l3, l4⟩ := h.cs.lt
  refine ⟨h.cs.same fun b hb' => hb.block b ?_, hA.step _ _ _ _ none h.j (grown_of_below hb) (fun r e => by cases e), h.ok, h.t, h.ti, h.vs, ⟨Nat.le_trans h.lo.1 hb.size, fun b hb' => (hb.block b (Nat.lt_of_lt_of_le hb' h.lo.1)).trans (h.lo.2 b hb')⟩, Nat.le_trans h.nw hb.size⟩
  rcases hb' with rfl | rfl | rfl | rfl | e
  · exact l1
  · exact l2
  · exact l3
  · exact l4
  · exact (h.cs.row e).2.1
/-- The top's rest is cut. -/
theorem CS.rest {nG g cap : Nat} {x : Vs} (h : CS N B4 sb B5 Bg nG c p v2 S (x :: P) (.slice (some ⟨g, 0, none⟩) (P.length + 1) cap) w) (r : List Int) (q : Option Addr) (k : Nat) :
    CS N B4 sb B5 Bg nG c p v2 S (⟨x.n, r, q, k⟩ :: P) (.slice (some ⟨g, 0, none⟩) (P.length + 1) cap) (w.setCell ⟨g, P.length * 2 + 1, none⟩ (.slice q r.length k)) := by
  obtain ⟨-, -, r1, r2, r3, r4⟩ := h.row (r := g) rfl
  have hoth : ∀ j, j ≠ g → (w.setCell ⟨g, P.length * 2 + 1, none⟩ (.slice q r.length k)).heap[j]? = w.heap[j]? := fun j hj => Deep.blk_setCell_other _ _ _ _ hj
  refine ⟨(hoth _ (Ne.symm r1)).trans h.b4, (hoth _ (Ne.symm r2)).trans h.sb, ⟨(hoth _ (Ne.symm r3)).trans h.st.b, ?_⟩, (hoth _ (Ne.symm r4)).trans h.bg⟩
  have := row_set h.st.o (P.length * 2 + 1) (.slice q r.length k) (by first | omega | (simp; omega))
  rw [flV_set] at this
  rw [flV_cons]
  exact this
end
set_option maxHeartbeats 4000000 in
theorem comings1_in {w0 : World} {G : List Gn} {p : Option Addr} {c : Nat} {v2 : Value} (hG : Gs w0 p G) (hn2 : G.length ≤ 1000) (hK : ∀ x ∈ G, ∀ k ∈ x.kids, 0 ≤ k ∧ k.toNat < G.length) (hsm : sumK G ≤ 20000) (rn : Nat) (hr : rn < G.length)
    (n l Br Bg : Nat) (J : (Nat → Prop) → Nat → World → Prop) (Jx : Nat → World → Prop) (W : World) (hlo : Lo w0 W) (hBr : w0.heap.size ≤ Br) (hBg : w0.heap.size ≤ Bg)
    (c1 : W.heap[Br]? = some (.cells #[.int .i64 (rn : Nat)] 3)) (c2 : W.heap[Bg]? = some (.cells #[.slice p G.length c, v2] 25)) (hJ : Abo W.heap.size J)
    (hY : ∀ (m : Nat) (X : Nat → Prop) (i : Nat) (x : Int × Nat) (W1 : World), (cmT G (rn : Nat))[i]? = some x → J X i W1 → YieldAt Fence.wide m Tryd.prog l (encK x) W1 fun e W' =>
      (e = .returned (.bool true) ∧ J X (i + 1) W' ∧ Kq (orX (RK w0 Br Bg) X) W1 W') ∨ (e = .returned (.bool false) ∧ Jx (i + 1) W')) (h0 : J (fun _ => False) 0 W) :
    CallsIn Fence.wide n Tryd.prog 32 #[.func (.yield l) #[] #[], .pointer (some ⟨Br, 0, none⟩), .pointer (some ⟨Bg, 0, none⟩)] W fun e W' => (∃ v, e = .returned v) ∧ ((∃ X, J X (cmT G (rn : Nat)).length W') ∨ ∃ i, Jx i W') := by
  have hT0 : (cmT G (rn : Nat))[0]? = some ((rn : Int), 0) := rfl
  have hT1 : (cmT G (rn : Nat)).drop 1 = cmE G ((List.replicate G.length 0).set rn 1) [((rn : Nat), kdN G (rn : Nat))] := by unfold cmT; rw [Int.toNat_natCast]; rfl
  have hok : Okp G ((List.replicate G.length 0).set rn 1) [((rn : Nat), kdN G (rn : Nat))] := by
    have := okp_start (root := (rn : Int)) hK ⟨by omega, by rw [Int.toNat_natCast]; exact hr⟩
    rw [Int.toNat_natCast] at this
    exact this
  have hTl : 1 ≤ (cmT G (rn : Nat)).length := by unfold cmT; simp
  obtain ⟨T, hT⟩ : ∃ T, cmT G (rn : Nat) = T := ⟨_, rfl⟩
  rw [hT] at hY hT0 hT1 hTl ⊢
  clear hT
  have HT0 : Hid (T[0]? = some ((rn : Int), 0)) := hT0
  have HT1 : Hid (T.drop 1 = cmE G ((List.replicate G.length 0).set rn 1) [((rn : Nat), kdN G (rn : Nat))]) := hT1
  have HOK : Hid (Okp G ((List.replicate G.length 0).set rn 1) [((rn : Nat), kdN G (rn : Nat))]) := hok
  have HTL : Hid (1 ≤ T.length) := hTl
  have HY : Hid (∀ (m : Nat) (X : Nat → Prop) (i : Nat) (x : Int × Nat) (W1 : World), T[i]? = some x → J X i W1 → YieldAt Fence.wide m Tryd.prog l (encK x) W1 fun e W' =>
      (e = .returned (.bool true) ∧ J X (i + 1) W' ∧ Kq (orX (RK w0 Br Bg) X) W1 W') ∨ (e = .returned (.bool false) ∧ Jx (i + 1) W')) := hY
  have HA : Hid (Abo W.heap.size J) := hJ
  have HG : Hid (Gs w0 p G) := hG
  have HK : Hid (∀ x ∈ G, ∀ k ∈ x.kids, 0 ≤ k ∧ k.toNat < G.length) := hK
  have HLO : Hid (Lo w0 W) := hlo
  have Y0 := HY.out (n - 1) (fun _ => False) 0 _ W HT0.out h0
  unfold encK at Y0
  dsimp only at Y0
  have e0 : ((0 : Nat) : Int) = 0 := rfl
  rw [e0] at Y0
  have r1 : W.cell? ⟨Br, 0, none⟩ = some (.int .i64 (rn : Nat)) := by simp [World.cell?, c1]
  obtain ⟨fn, tmps, assign, body, hyy, hRR⟩ := Y0
  have HC1 : Hid (W.heap[Br]? = some (.cells #[.int .i64 (rn : Nat)] 3)) := c1
  have HC2 : Hid (W.heap[Bg]? = some (.cells #[.slice p G.length c, v2] 25)) := c2
  clear hY hJ hT0 hT1 hok hTl hG hK hlo h0 c1 c2
  refine callsIn_of_wp Tryd.func32 rfl trivial ?_ rfl
  simp only [Tryd.ntmps32, List.size_toArray, List.length_cons, List.length_nil, Nat.reduceAdd, Nat.reduceSub, Array.replicate_succ, Array.replicate_zero, List.push_toArray, List.append_toArray, List.nil_append, List.cons_append]
  gi_wp2
  refine ⟨(fun h => by cases h), hRR.mono ?_⟩
  rintro e3 W3 (⟨rfl, hJ3, hk3⟩ | ⟨rfl, hJx3⟩)
  · clear hRR hyy r1
    have g3 : W3.cell? ⟨Bg, 0, none⟩ = some (.slice p G.length c) := by
      have := (hk3.same Bg (.inl (.inr (.inr rfl)))).trans HC2.out
      simp [World.cell?, this]
    obtain ⟨W4, mk1, mk2, mk3, mk4⟩ := make_stands G.length (by omega) W3
    have q3 : W3.cell? ⟨Br, 0, none⟩ = some (.int .i64 (rn : Nat)) := by
      have := (hk3.same Br (.inl (.inr (.inl rfl)))).trans HC1.out
      simp [World.cell?, this]
    have lB := World.block_lt_of_cell? W3 _ q3
    have lG := World.block_lt_of_cell? W3 _ g3
    dsimp only at lB lG
    have hB6 : Below W3.heap.size W3 ((W4.alloc (.cells #[.slice (some ⟨W3.heap.size, 0, none⟩) G.length G.length] 50)).alloc (.cells #[.slice none 0 0] 53)) := (mk3.alloc mk3.size _).alloc (by have := mk3.size; simp; omega) _
    have q6 := (hB6.cell (p := ⟨Br, 0, none⟩) lB).trans q3
    have HLO3 : Hid (Lo w0 W3) := HLO.out.kq hk3 (fun b hb => .inl (.inl hb))
    have CS6 : CS W3.heap.size W4.heap.size W3.heap.size (W4.heap.size + 1) Bg G.length c p v2 (List.replicate G.length 0) [] (.slice none 0 0) ((W4.alloc (.cells #[.slice (some ⟨W3.heap.size, 0, none⟩) G.length G.length] 50)).alloc (.cells #[.slice none 0 0] 53)) := by
      refine ⟨?_, ?_, ⟨?_, ?_⟩, ?_⟩
      · exact (Below.heap_alloc _ _ _ (by simp)).trans (World.alloc_heap_new W4 _)
      · exact (Below.heap_alloc _ _ _ (by simp; omega)).trans ((Below.heap_alloc _ _ _ mk4).trans mk2)
      · have := World.alloc_heap_new (W4.alloc (.cells #[.slice (some ⟨W3.heap.size, 0, none⟩) G.length G.length] 50)) (.cells #[.slice none 0 0] 53)
        rw [World.size_alloc] at this
        exact this
      · exact ⟨rfl, .inl ⟨rfl, rfl⟩⟩
      · exact (hB6.block Bg lG).trans ((hk3.same Bg (.inl (.inr (.inr rfl)))).trans HC2.out)
    obtain ⟨W6, hW6⟩ : ∃ W6, ((W4.alloc (.cells #[.slice (some ⟨W3.heap.size, 0, none⟩) G.length G.length] 50)).alloc (.cells #[.slice none 0 0] 53)) = W6 := ⟨_, rfl⟩
    have hs6 : W6.heap.size = W4.heap.size + 2 := by rw [← hW6]; simp
    rw [hW6] at hB6 q6 CS6
    have HLO6 : Hid (Lo w0 W6) := ⟨Nat.le_trans HLO3.out.1 hB6.size, fun b hb => (hB6.block b (Nat.lt_of_lt_of_le hb HLO3.out.1)).trans (HLO3.out.2 b hb)⟩
    have EN := enter_any HG.out rfl hn2 CS6 (by simp) HLO6.out (HLO3.out.1) (by omega) (by simp) rn hr
    have HJ6 : Hid (J (fun b => W3.heap.size ≤ b ∧ b < W6.heap.size) 1 W6) := HA.out.less _ _ _ _ (HA.out.new _ _ _ _ _ hJ3 (grown_of_below hB6) (fun r e => by cases e)) (fun b hb => .inr hb)
    have HCS6 : Hid (CS W3.heap.size W4.heap.size W3.heap.size (W4.heap.size + 1) Bg G.length c p v2 (List.replicate G.length 0) [] (.slice none 0 0) W6) := CS6
    clear CS6 hJ3 mk2
    gi_wp2_with (first | rw [hW6])
    refine ⟨trivial, (fun h => by cases h), ((callsIn_wide (n := _)).2 EN).mono ?_⟩
    rintro e7 W7 ⟨⟨v7, rfl⟩, g7, cap7, t7, cs7, o7⟩
    have J7 := CS.entered HA.out HJ6.out (fun b hb => by
      rcases hb with rfl | rfl | rfl | hb
      · omega
      · omega
      · omega
      · cases hb) t7 cs7 o7
    have hCN : CN w0 W3.heap.size W4.heap.size W3.heap.size (W4.heap.size + 1) := ⟨HLO3.out.1, by omega, by omega, by omega⟩
    have LO7 : Lo w0 W7 := HLO6.out.trk t7 (fun b hb => by
      have := HLO3.out.1
      rcases hb with rfl | rfl | hb
      · omega
      · omega
      · cases hb)
    have CL7 : CL w0 G T J W3.heap.size W4.heap.size W3.heap.size (W4.heap.size + 1) Bg c p v2 ((List.replicate G.length 0).set rn 1) [⟨(rn : Nat), (gAt G rn).kids, (gAt G rn).q, (gAt G rn).c⟩] (.slice (some ⟨g7, 0, none⟩) 1 cap7) 1 W7 :=
      ⟨cs7, J7, HOK.out, HT1.out, HTL.out, fun x hx => by
        rw [List.mem_singleton.1 hx]
        have := HG.out.k rn hr
        exact ⟨this.is, this.lc, this.cm⟩, LO7, Nat.le_trans hB6.size t7.size⟩
    have HM : Hid (cmM G ((List.replicate G.length 0).set rn 1) (pl [⟨(rn : Nat), (gAt G rn).kids, (gAt G rn).q, (gAt G rn).c⟩]) < 100001) := Nat.lt_succ_of_le (cm_small (r := (rn : Int)) hn2 hsm (by simp))
    clear EN t7 cs7 o7 J7 LO7 hB6 q6 q3 lB lG g3 mk1 mk3 mk4 hk3 hs6 hW6
    generalize W3.heap.size = N at *
    generalize W4.heap.size = B4 at *
    generalize hB5 : B4 + 1 = B5 at *
    gi_wp2
    gi_loopg [7, 8] (100001) (fun gk hv kv wr => ∃ (S : List Nat) (P : List Vs) (vp : Value) (i : Nat), CL w0 G T J N B4 N B5 Bg c p v2 S P vp i wr ∧ Hid (cmM G S (pl P) < gk ∧ gk ≤ 100001))
    case atStart => exact ⟨_, _, _, _, CL7, HM.out, Nat.le_refl _⟩
    case round =>
      clear CL7 HM
      obtain ⟨S, P, vp, i, hC, hM⟩ := hrel
      have hPl := pl_le hM.out.1
      have hMk := hM.out.2
      have SZ := Size_any hC.cs.st (by omega)
      cases P with
      | nil =>
        have hti : i = T.length := by
          have h1 := hC.t
          have h2 := hC.ti
          have e : pl [] = [] := rfl
          rw [e, cmE_nil] at h1
          have := List.drop_eq_nil_iff.1 h1
          omega
        have HJ : Hid (J (XS B4 N B5 vp) T.length wr) := hti ▸ hC.j
        clear hC hM hti
        gi_wp2
        refine ⟨trivial, (fun h => by cases h), ((callsIn_wide (n := _)).2 SZ).mono ?_⟩
        rintro e8 W8 ⟨rfl, rfl⟩
        clear SZ
        gi_wp2
        go_end0
        exact ⟨⟨_, rfl⟩, .inl ⟨_, HJ.out⟩⟩
      | cons x P =>
        obtain ⟨g, cap, rfl, hgN, hgl, hgc, hgm, hgB⟩ := hC.cs.st.form
        have TP := Top_any hC.cs.st (by simp at hPl; omega)
        have hp0 : (0 : Int) < (P.length : Int) + 1 := by omega
        have hpm : (P.length : Int) ≤ 1000000 := by simp at hPl; omega
        obtain ⟨xn, xr, xq, xc⟩ := x
        have hxn := hC.ok.n _ (List.mem_cons_self ..)
        dsimp only at hxn
        obtain ⟨xk, hxk⟩ : ∃ xk : Nat, xn = xk := ⟨xn.toNat, by omega⟩
        subst hxk
        rw [Int.toNat_natCast] at hxn
        have hxk' : (xk : Int) < G.length := by omega
        gi_wp2
        refine ⟨trivial, (fun h => by cases h), ((callsIn_wide (n := _)).2 SZ).mono ?_⟩
        rintro e8 W8 ⟨rfl, hw8⟩
        subst hw8
        clear SZ
        gi_wp2
        refine ⟨trivial, (fun h => by cases h), ((callsIn_wide (n := _)).2 TP).mono ?_⟩
        rintro e9 W9 ⟨rfl, hb9⟩
        have hC9 := hC.on HA.out hb9
        clear TP hC hb9
        obtain ⟨t0, t1, tf⟩ := hC9.cs.st.top
        dsimp only at t0 t1
        have c4 := hC9.cs.c4
        have hSl := hC9.ok.l
        cases xr with
        | nil =>
          obtain ⟨s0, s1⟩ := hC9.cs.cs (k := xk) (by omega)
          gi_wp2
          gi_region
          have hg10 : W9.grownBy (W9.setCell ⟨N, xk, none⟩ (.int .u8 2)).drew (some N) := ⟨rfl, rfl, rfl, (set_grown W9 N xk (.int .u8 2)).size, (set_grown W9 N xk (.int .u8 2)).block⟩
          have h10 : CS N B4 N B5 Bg G.length c p v2 (S.set xk 2) (⟨(xk : Nat), [], xq, xc⟩ :: P) (.slice (some ⟨g, 0, none⟩) (P.length + 1) cap) (W9.setCell ⟨N, xk, none⟩ (.int .u8 2)).drew := (hC9.cs.stand xk 2).same (fun b _ => rfl)
          have J10 := HA.out.step _ _ _ _ _ hC9.j hg10 (fun r e => by cases e; exact .inl (.inr (.inl rfl)))
          have LO10 : Lo w0 (W9.setCell ⟨N, xk, none⟩ (.int .u8 2)).drew := hC9.lo.trk (.one hg10 (X := fun b => b = N) (fun r e => by cases e; rfl)) (fun b hb => by rw [hb]; exact hCN.a)
          have NW10 := Nat.le_trans hC9.nw hg10.size
          generalize (W9.setCell ⟨N, xk, none⟩ (.int .u8 2)).drew = W10 at hg10 h10 J10 LO10 NW10 ⊢
          have PP := Pop_any h10.st (by omega)
          have HCL : Hid (∀ W11, W10.grownBy W11 (some B5) → Ps N B5 P (.slice (some ⟨g, 0, none⟩) P.length cap) W11 → CL w0 G T J N B4 N B5 Bg c p v2 (S.set xk 2) P (.slice (some ⟨g, 0, none⟩) P.length cap) i W11 ∧ cmM G (S.set xk 2) (pl P) < cmM G S (pl (⟨(xk : Nat), [], xq, xc⟩ :: P))) := fun W11 hg11 ps11 => by
            obtain ⟨n1, n2, n3, n4, n5, n6⟩ := h10.ne
            obtain ⟨l1, l2, l3, l4⟩ := h10.lt
            have hcl := hC9.ok.close
            rw [Int.toNat_natCast] at hcl
            have ht := hC9.t
            have e1 : pl (⟨(xk : Nat), [], xq, xc⟩ :: P) = ((xk : Int), []) :: pl P := rfl
            have hcm := cmM_close (G := G) (p := pl P) hxn.2.2
            have hce := cmE_close (G := G) (p := pl P) hxn.2.2
            rw [Int.toNat_natCast] at hcm hce
            rw [e1, hce] at ht
            refine ⟨⟨⟨(hg11.block B4 l1 (fun e => n2 (by cases e; rfl))).trans h10.b4, (hg11.block N l2 (fun e => n4 (by cases e; rfl))).trans h10.sb, ps11, (hg11.block Bg l4 (fun e => n6 (by cases e; rfl))).trans h10.bg⟩, HA.out.less _ _ _ _ (HA.out.step _ _ _ _ _ J10 hg11 (fun r e => by cases e; exact .inl (.inr (.inr (.inl rfl))))) (fun b hb => hb), hcl, ht, hC9.ti, fun x hx => hC9.vs x (List.mem_cons_of_mem _ hx), LO10.trk (.one hg11 (X := fun b => b = B5) (fun r e => by cases e; rfl)) (fun b hb => by rw [hb]; exact Nat.le_trans hCN.a hCN.d), Nat.le_trans NW10 hg11.size⟩, ?_⟩
            rw [e1]
            omega
          clear t0 t1 tf c4 s0 s1 hC9 hg10 h10 J10 LO10 NW10
          gi_wp2
          refine ⟨trivial, (fun h => by cases h), ((callsIn_wide (n := _)).2 PP).mono ?_⟩
          rintro e11 W11 ⟨⟨v11, rfl⟩, hg11, ps11⟩
          clear PP
          obtain ⟨hCL, hmm⟩ := HCL.out W11 hg11 ps11
          gi_wp2
          gi_roundg (cmM G S (pl (⟨(xk : Nat), [], xq, xc⟩ :: P)))
          case measure => exact hM.out.1
          case rel => exact ⟨_, _, _, _, hCL, ⟨hmm, by have := hM.out; omega⟩⟩
        | cons k r =>
          obtain ⟨hk0, hk1⟩ := hC9.ok.kid
          obtain ⟨kk, hkk⟩ : ∃ kk : Nat, k = kk := ⟨k.toNat, by omega⟩
          subst hkk
          rw [Int.toNat_natCast] at hk1
          have hk1' : (kk : Int) < G.length := by omega
          obtain ⟨hvi, hvl, hvm⟩ := hC9.vs _ (List.mem_cons_self ..)
          dsimp only at hvi hvl hvm
          have hIw := hvi.lo hC9.lo
          obtain ⟨b, o, rfl, hcc⟩ := hvi.at (by simp)
          obtain ⟨b', o', e, hcw⟩ := hIw.at (by simp)
          cases e
          have k0 := hcw 0 (by simp)
          have ek : iAt ((kk : Int) :: r) 0 = kk := rfl
          rw [ek, Nat.add_zero] at k0
          have hr0 : ((r.length : Int) + 1 == 0) = false := by simp; omega
          obtain ⟨q', hq'⟩ : ∃ q', (if xc = 1 then (some ⟨b, o, none⟩ : Option Addr) else (some ⟨b, o, none⟩ : Option Addr).map (·.add 1)) = q' := ⟨_, rfl⟩
          have SL : ∀ w2, (Instr.slice 23 (.slice (some ⟨b, o, none⟩) (r.length + 1) xc) (some (.int .i64 1)) none none).run Tryd.prog w2 = .ok (.slice q' r.length (xc - 1)) w2 := fun w2 => by
            have := slice_from (some ⟨b, o, none⟩) (r.length + 1) xc 1 (by omega) (by simpa using hvl) w2
            rw [hq'] at this
            exact this
          have hvi2 : Is w0 q' r := by
            have := hvi.from xc 1 hvl
            rw [hq'] at this
            exact this
          have hrl : (r.length : Int) ≤ 1000000 := by
            have h1 := hM.out
            unfold cmM cmP pl at h1
            simp at h1
            omega
          have hxcl : (r.length : Int) + 1 ≤ xc := by simp at hvl; omega
          have hxcm : (xc : Int) ≤ 9223372036854775807 := by unfold maxLen at hvm; omega
          have tf1 := tf (P.length * 2 + 1)
          have hg10 := set_grown W9 g (P.length * 2 + 1) (.slice q' r.length (xc - 1))
          have h10 : CS N B4 N B5 Bg G.length c p v2 S (⟨(xk : Nat), r, q', xc - 1⟩ :: P) (.slice (some ⟨g, 0, none⟩) (P.length + 1) cap) (W9.setCell ⟨g, P.length * 2 + 1, none⟩ (.slice q' r.length (xc - 1))) := hC9.cs.rest r q' (xc - 1)
          have J10 := HA.out.step _ _ _ _ _ hC9.j hg10 (fun r e => by cases e; exact .inl (.inr (.inr (.inr rfl))))
          have LO10 : Lo w0 (W9.setCell ⟨g, P.length * 2 + 1, none⟩ (.slice q' r.length (xc - 1))) := hC9.lo.trk (.one hg10 (X := fun b => b = g) (fun r e => by cases e; rfl)) (fun b hb => by rw [hb]; exact Nat.le_trans hCN.a hgN)
          have NW10 := Nat.le_trans hC9.nw hg10.size
          obtain ⟨W10, hW10⟩ : ∃ W10, W9.setCell ⟨g, P.length * 2 + 1, none⟩ (.slice q' r.length (xc - 1)) = W10 := ⟨_, rfl⟩
          rw [hW10] at hg10 h10 J10 LO10 NW10
          have d4 := h10.c4
          obtain ⟨d0, d1⟩ := h10.cs (k := kk) (by omega)
          have e1 : pl (⟨(xk : Nat), (kk : Int) :: r, some ⟨b, o, none⟩, xc⟩ :: P) = ((xk : Int), (kk : Int) :: r) :: pl P := rfl
          have e2 : pl (⟨(xk : Nat), r, q', xc - 1⟩ :: P) = ((xk : Int), r) :: pl P := rfl
          by_cases hs : sdAt S (kk : Int) = 0
          ·
            have hceq := cmE_new (G := G) (S := S) (n := (xk : Int)) (k := (kk : Int)) (r := r) (p := pl P) (by rw [Int.toNat_natCast]; omega) hs
            have hcm := cmM_new (G := G) (S := S) (n := (xk : Int)) (k := (kk : Int)) (r := r) (p := pl P) (by rw [Int.toNat_natCast]; omega) hs
            rw [Int.toNat_natCast] at hceq hcm
            rw [hs] at d0
            have hokn := hC9.ok.new HK.out
            rw [Int.toNat_natCast] at hokn
            have hdr := hC9.t
            rw [e1, hceq] at hdr
            obtain ⟨x0, x1, x2⟩ := drop_cons hdr
            have Y := HY.out (n - 1) _ i _ W10 x0 J10
            unfold encK at Y
            dsimp only at Y
            rw [e0] at Y
            obtain ⟨fn2, tmps2, assign2, body2, hyy2, hRR2⟩ := Y
            have HVS : Hid (∀ x ∈ (⟨(xk : Nat), r, q', xc - 1⟩ :: P : List Vs), Is w0 x.q x.r ∧ x.r.length ≤ x.c ∧ x.c ≤ maxLen) := fun x hx => by
              rcases List.mem_cons.1 hx with rfl | hx
              · exact ⟨hvi2, by simp at hvl; show r.length ≤ xc - 1; omega, by show xc - 1 ≤ maxLen; omega⟩
              · exact hC9.vs x (List.mem_cons_of_mem _ hx)
            have HOKN : Hid (Okp G (S.set kk 1) (((kk : Int), kdN G (kk : Int)) :: ((xk : Int), r) :: pl P)) := hokn
            have HX1 : Hid (T.drop (i + 1) = cmE G (S.set kk 1) (((kk : Int), kdN G (kk : Int)) :: ((xk : Int), r) :: pl P)) := x1
            have HX2 : Hid (i + 1 ≤ T.length) := x2
            have HMM : Hid (cmM G (S.set kk 1) (((kk : Int), kdN G (kk : Int)) :: ((xk : Int), r) :: pl P) < gk - 1 ∧ gk ≤ 100001 ∧ 1 < gk) := by
              have := hM.out
              show _ ∧ _
              rw [e1, hcm] at this
              omega
            have HH : Hid (∀ W12, Kq (orX (RK w0 Br Bg) (XS B4 N B5 (.slice (some ⟨g, 0, none⟩) (P.length + 1) cap))) W10 W12 → CS N B4 N B5 Bg G.length c p v2 S (⟨(xk : Nat), r, q', xc - 1⟩ :: P) (.slice (some ⟨g, 0, none⟩) (P.length + 1) cap) W12 ∧ Lo w0 W12 ∧ N ≤ W12.heap.size) := fun W12 hk => ⟨h10.same (fun b hb => hk.same b (by
              rcases hb with rfl | rfl | rfl | rfl | e
              · exact .inr (.inl rfl)
              · exact .inr (.inr (.inl rfl))
              · exact .inr (.inr (.inr (.inl rfl)))
              · exact .inl (.inr (.inr rfl))
              · exact .inr (.inr (.inr (.inr e))))), LO10.kq hk (fun b hb => .inl (.inl hb)), Nat.le_trans NW10 hk.size⟩
            have HWW : Hid (W9.setCell ⟨g, P.length * 2 + 1, none⟩ (.slice q' r.length (xc - 1)) = W10) := hW10
            clear hC9 h10 J10 LO10 NW10 hcc hcw hvi hvi2 hIw hceq hcm hdr x0 x1 x2 hq' hg10 e1
            have HPL : Hid (P.length + 1 ≤ 1073741824) := by show _ ≤ _; omega
            rw [e0] at d0
            gi_wp2_with (first | rw [hW10])
            refine ⟨(fun h => by cases h), hRR2.mono ?_⟩
            rintro e12 W12 (⟨rfl, hJ12, hk12⟩ | ⟨rfl, hJx12⟩)
            · clear hRR2 hyy2 k0 t0 t1 tf tf1 d0 d1 d4 SL
              obtain ⟨CS12, LO12, NW12⟩ := HH.out W12 hk12
              have d4 := CS12.c4
              obtain ⟨d0, d1⟩ := CS12.cs (k := kk) (by omega)
              rw [hs, e0] at d0
              have EN := enter_any HG.out rfl hn2 CS12 hSl LO12 hCN.a NW12 HPL.out kk hk1
              have HCS12 : Hid _ := CS12
              clear CS12
              gi_wp2
              refine ⟨trivial, (fun h => by cases h), ((callsIn_wide (n := _)).2 EN).mono ?_⟩
              rintro e13 W13 ⟨⟨v13, rfl⟩, g13, cap13, t13, cs13, o13⟩
              clear EN d0 d1 d4
              have J13 := CS.entered HA.out hJ12 (fun b hb => hb) t13 cs13 o13
              have CL13 : CL w0 G T J N B4 N B5 Bg c p v2 (S.set kk 1) (⟨(kk : Nat), (gAt G kk).kids, (gAt G kk).q, (gAt G kk).c⟩ :: ⟨(xk : Nat), r, q', xc - 1⟩ :: P) (.slice (some ⟨g13, 0, none⟩) (P.length + 1 + 1) cap13) (i + 1) W13 :=
                ⟨cs13, J13, HOKN.out, HX1.out, HX2.out, fun x hx => by
                  rcases List.mem_cons.1 hx with rfl | hx
                  · have := HG.out.k kk hk1
                    exact ⟨this.is, this.lc, this.cm⟩
                  · exact HVS.out x hx, LO12.trk t13 (fun b hb => by
                  rcases hb with rfl | rfl | hb
                  · exact hCN.a
                  · exact Nat.le_trans hCN.a hCN.d
                  · cases hb; exact Nat.le_trans hCN.a hgN), Nat.le_trans NW12 t13.size⟩
              gi_wp2
              gi_roundg (gk - 1)
              case measure => have := HMM.out; omega
              case rel => exact ⟨_, _, _, _, CL13, ⟨HMM.out.1, by have := HMM.out; omega⟩⟩
            · clear hRR2 hyy2
              gi_wp2
              refine bodyPost_ret (results_none rfl _ _ _) rfl ?_
              exact ⟨⟨_, rfl⟩, .inr ⟨_, hJx12⟩⟩
          ·
            have hceq := cmE_seen (G := G) (S := S) (n := (xk : Int)) (k := (kk : Int)) (r := r) (p := pl P) hs
            have hcm := cmM_seen (G := G) (S := S) (n := (xk : Int)) (k := (kk : Int)) (r := r) (p := pl P)
            have hdr := hC9.t
            rw [e1, hceq] at hdr
            obtain ⟨x0, x1, x2⟩ := drop_cons hdr
            have Y := HY.out (n - 1) _ i _ W10 x0 J10
            unfold encK at Y
            dsimp only at Y
            skip
            obtain ⟨fn2, tmps2, assign2, body2, hyy2, hRR2⟩ := Y
            have HVS : Hid (∀ x ∈ (⟨(xk : Nat), r, q', xc - 1⟩ :: P : List Vs), Is w0 x.q x.r ∧ x.r.length ≤ x.c ∧ x.c ≤ maxLen) := fun x hx => by
              rcases List.mem_cons.1 hx with rfl | hx
              · exact ⟨hvi2, by simp at hvl; show r.length ≤ xc - 1; omega, by show xc - 1 ≤ maxLen; omega⟩
              · exact hC9.vs x (List.mem_cons_of_mem _ hx)
            have HOKN : Hid (Okp G S (((xk : Int), r) :: pl P)) := hC9.ok.seen
            have HX1 : Hid (T.drop (i + 1) = cmE G S (((xk : Int), r) :: pl P)) := x1
            have HX2 : Hid (i + 1 ≤ T.length) := x2
            have HMM : Hid (cmM G S (((xk : Int), r) :: pl P) < gk - 1 ∧ gk ≤ 100001 ∧ 1 < gk) := by
              have := hM.out
              show _ ∧ _
              rw [e1, hcm] at this
              omega
            have HH : Hid (∀ W12, Kq (orX (RK w0 Br Bg) (XS B4 N B5 (.slice (some ⟨g, 0, none⟩) (P.length + 1) cap))) W10 W12 → CS N B4 N B5 Bg G.length c p v2 S (⟨(xk : Nat), r, q', xc - 1⟩ :: P) (.slice (some ⟨g, 0, none⟩) (P.length + 1) cap) W12 ∧ Lo w0 W12 ∧ N ≤ W12.heap.size) := fun W12 hk => ⟨h10.same (fun b hb => hk.same b (by
              rcases hb with rfl | rfl | rfl | rfl | e
              · exact .inr (.inl rfl)
              · exact .inr (.inr (.inl rfl))
              · exact .inr (.inr (.inr (.inl rfl)))
              · exact .inl (.inr (.inr rfl))
              · exact .inr (.inr (.inr (.inr e))))), LO10.kq hk (fun b hb => .inl (.inl hb)), Nat.le_trans NW10 hk.size⟩
            have HWW : Hid (W9.setCell ⟨g, P.length * 2 + 1, none⟩ (.slice q' r.length (xc - 1)) = W10) := hW10
            clear hC9 h10 J10 LO10 NW10 hcc hcw hvi hvi2 hIw hceq hcm hdr x0 x1 x2 hq' hg10 e1
            obtain ⟨s9, hs9⟩ : ∃ s9, sdAt S (kk : Int) = s9 := ⟨_, rfl⟩
            rw [hs9] at d0 hs hyy2
            try rw [hs9] at hRR2
            have hs' : ((s9 : Int) == 0) = false := by simpa using hs
            have HS9 : Hid (sdAt S (kk : Int) = s9) := hs9
            clear hs9 hs
            gi_wp2_with (first | rw [hW10])
            refine ⟨(fun h => by cases h), hRR2.mono ?_⟩
            rintro e12 W12 (⟨rfl, hJ12, hk12⟩ | ⟨rfl, hJx12⟩)
            · clear hRR2 hyy2 k0 t0 t1 tf tf1 d0 d1 d4 SL
              obtain ⟨CS12, LO12, NW12⟩ := HH.out W12 hk12
              have d4 := CS12.c4
              obtain ⟨d0, d1⟩ := CS12.cs (k := kk) (by omega)
              rw [HS9.out] at d0
              have CL12 : CL w0 G T J N B4 N B5 Bg c p v2 S (⟨(xk : Nat), r, q', xc - 1⟩ :: P) (.slice (some ⟨g, 0, none⟩) (P.length + 1) cap) (i + 1) W12 := ⟨CS12, hJ12, HOKN.out, HX1.out, HX2.out, HVS.out, LO12, NW12⟩
              have HCL12 : Hid _ := CL12
              clear CS12 CL12
              gi_wp2
              gi_roundg (gk - 1)
              case measure => have := HMM.out; omega
              case rel => exact ⟨_, _, _, _, HCL12.out, ⟨HMM.out.1, by have := HMM.out; omega⟩⟩
            · clear hRR2 hyy2
              gi_wp2
              refine bodyPost_ret (results_none rfl _ _ _) rfl ?_
              exact ⟨⟨_, rfl⟩, .inr ⟨_, hJx12⟩⟩
  · clear hRR hyy
    gi_wp2
    refine bodyPost_ret (results_none rfl _ _ _) rfl ?_
    exact ⟨⟨_, rfl⟩, .inr ⟨_, hJx3⟩⟩
end Go.Proofs.YtjfeamfchgcblaaDoor
