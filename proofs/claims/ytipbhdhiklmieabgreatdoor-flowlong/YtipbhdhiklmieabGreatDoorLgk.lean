/- Key of one line, at its beginning. -/
import Derived.Test.YtipbhdhiklmieabGreatDoorLga
set_option linter.unusedVariables false
set_option linter.unusedSimpArgs false
set_option maxRecDepth 100000
set_option maxHeartbeats 8000000
namespace Go.Proofs.YtipbhdhiklmieabGreatDoor
open Go.RowKit Go.Shelf
attribute [local go_sem] Oper.semAt_some
theorem results_t2 {fn : Func} {a b : Tmp} (h : fn.results = #[.tmp a, .tmp b]) {tmps : Array Value} {W : World} {va vb : Value} (h1 : tmps.getD a undef = va) (h2 : tmps.getD b undef = vb) : (results fn tmps).run Tryz.prog W = .ok (.tuple #[va, vb]) W := by
  have h1' : tmps[a]?.getD undef = va := by simpa using h1
  have h2' : tmps[b]?.getD undef = vb := by simpa using h2
  simp [results, h, h1', h2', go_sem]
theorem bla_one {t : List Int} {k : Nat} (hk : k < t.length) (h : iAt t k = 32) : blaW orc (one t) ⟨0, k⟩ = true := by
  unfold blaW
  rw [hd_one hk, h]
  rw [show orc.blank 32 = true by decide, Bool.or_true]
theorem nod_key {t : List Int} {n : Nat} (h : Wd t 0 n false) : nodW orc (one t) 0 0 true 0 ⟨0, 0⟩ = some (.ok (scaW orc ⟨⟨0, n⟩, [], [], 0⟩ hs0 (orc.fold [(t.drop 0).take n]) 1)) := by
  unfold nodW
  rw [h.begW (s := ⟨⟨0, 0⟩, [], [], 0⟩) (blk := true) rfl rfl 0]
  simp only [Nat.zero_add]
  rfl
/-- The environment of Key. -/
abbrev keyE (g : Nat) (x : Ln) : Env := ⟨some ⟨g, 0, none⟩, 1, [x], 0, 0, true⟩
theorem keyE_L {g : Nat} {x : Ln} {t : List Int} (hx : x.lp = ⟨0, t⟩) : (keyE g x).L = one t := by
  show [x.lp] = [⟨0, t⟩]
  rw [hx]
theorem keyE_fine {g : Nat} {x : Ln} {t : List Int} (hx : x.lp = ⟨0, t⟩) (ht : t.length ≤ 1300) : Fine (keyE g x) := by
  have hxt : x.t = t := congrArg Lp.t hx
  have h1 : ∀ (j : Nat) (y : Ln), ([x] : List Ln)[j]? = some y → y.t.length ≤ 1300 := fun j y hy => by
    cases j with
    | zero => cases hy; rw [hxt]; exact ht
    | succ j => simp at hy
  exact ⟨by show 1 ≤ _; decide, fun j y hy => by have := h1 j y hy; omega, Int.le_refl 0, (show (0 : Int) ≤ 1048576 by decide), by show 1 ≤ 1; decide, by show 1 ≤ maxLen; unfold maxLen; omega, by show 1 ≤ 600; decide, h1⟩
theorem Key_one {w : World} {rb g n : Nat} {x : Ln} {t : List Int} (hrb : w.cell? ⟨rb, 0, none⟩ = some (.slice (some ⟨g, 0, none⟩) 1 1)) (hls : Ls w (some ⟨g, 0, none⟩) [x]) (hx : x.lp = ⟨0, t⟩) (ht : t.length ≤ 1300) (hT : P7.Tab w) (hw : Wd t 0 n false) (h58 : iAt t n = 58) (h32 : iAt t (n + 1) = 32) (hl : n + 1 < t.length) :
    Calls Tryz.prog 12 #[.pointer (some ⟨rb, 0, none⟩), .int .i64 0, .int .i64 0] w fun en w' => en = .returned (.tuple #[.int .i64 (if n > 1024 then 0 else (n : Nat)), .bool (decide (n ≤ 1024))]) ∧ Below w.heap.size w w' := by
  have hrl := World.block_lt_of_cell? w _ hrb
  have hxn : x.n = 0 := congrArg Lp.n hx
  have hxt : x.t = t := congrArg Lp.t hx
  have hf := keyE_fine (g := g) hx ht
  have hEL := keyE_L (g := g) hx
  have hpl : plcP ([x].map Ln.lp) 0 0 = some ⟨0, 0⟩ := by
    show plcP [x.lp] 0 0 = _
    rw [hx]
    simp [plcP]
  have PO : ∀ m, CallsIn Fence.wide m Tryz.prog 16 #[.slice (some ⟨g, 0, none⟩) 1 1, .int .i64 0, .int .i64 0] w fun en w' => en = .returned (.tuple #[.agg #[.int .i64 0, .int .i64 0], .bool true]) ∧ Below w.heap.size w w' := fun m => by
    have := (callsIn_wide (n := m)).2 (placeOf_any (c := 1) hls hf.l2 hf.t2 0 0 (fun j y hy => by cases j with | zero => cases hy; omega | succ j => simp at hy) (by decide))
    rw [hpl] at this
    exact this
  have hcl : w.cell? ⟨g, 0, none⟩ = some (.int .i64 0) ∧ w.cell? ⟨g, 1, none⟩ = some (.slice x.q t.length x.c) := by
    obtain ⟨b, o, hq, hc⟩ := hls.at (by simp)
    cases hq
    have := hc 0 x rfl
    rw [hxn, hxt] at this
    simpa using this
  obtain ⟨d0, d1⟩ := hcl
  have BL : ∀ m w, CallsIn Fence.wide m Tryz.prog 20 #[.agg #[.int .i64 0, .slice x.q t.length x.c]] w fun en w' => en = .returned (.int .i64 0) ∧ Below w.heap.size w w' := fun m w => (callsIn_wide (n := m)).2 (blanks_any 0 x.q t.length x.c w)
  have hgl := World.block_lt_of_cell? w _ d0
  have hokp : ∀ k, k ≤ t.length → Okp (keyE g x) ⟨0, k⟩ := fun k hk => ⟨x, rfl, by rw [hxt]; exact hk⟩
  have NW : Hid (∀ W2 : World, Below w.heap.size w W2 → Wk (W2.alloc (.cells #[.slice (some ⟨g, 0, none⟩) 1 1, .int .i64 0, .int .i64 0, .bool true, .int .i64 0, .int .i64 0, .slice none 0 0, .slice none 0 0, .int .i64 0] 59)) W2.heap.size (keyE g x) ⟨⟨0, 0⟩, [], [], 0⟩ (.slice none 0 0) (.slice none 0 0)) := fun W2 hB =>
    ⟨World.alloc_heap_new W2 _, (hls.b.on (hB.alloc hB.size _)).le hB.size, World.ownsRow_nil _ _ _ _, World.ownsRow_nil _ _ _ _⟩
  refine (callsIn_wide (n := 9)).1 ?_
  refine callsIn_of_wp Tryz.func12 rfl trivial ?_ rfl
  simp only [Tryz.ntmps12, frm, Nat.reduceAdd, Nat.reduceSub]
  have HLS : Hid (Ls w (some ⟨g, 0, none⟩) [x]) := hls
  clear hls hxn hpl
  gi_wp2
  first | refine tr2 ?_ | refine tr1 ?_
  gi_at_call 16
  refine (PO _).mono ?_
  clear PO
  rintro en1 V1 ⟨rfl, hB1⟩
  have hB2 : Below w.heap.size w (V1.alloc (.cells #[.int .i64 0, .int .i64 0] 52)) := hB1.alloc hB1.size _
  have bx : Bx (V1.alloc (.cells #[.int .i64 0, .int .i64 0] 52)) V1.heap.size 0 0 := World.alloc_heap_new V1 _
  have y0 := (hB2.cell (p := ⟨rb, 0, none⟩) hrl).trans hrb
  have e0 := (hB2.cell (p := ⟨g, 0, none⟩) hgl).trans d0
  have e1 := (hB2.cell (p := ⟨g, 1, none⟩) hgl).trans d1
  have hB1s := hB1.size
  have hEs : V1.heap.size < (V1.alloc (.cells #[.int .i64 0, .int .i64 0] 52)).heap.size := by simp
  clear d0 d1
  gi_wp2
  first | refine tr2 ?_ | refine tr1 ?_
  gi_at_call 20
  refine (BL _ _).mono ?_
  clear BL
  rintro en2 V2 ⟨rfl, hb2⟩
  have hB3 := hB2.trans (hb2.mono hB2.size)
  have y2 := (hB3.cell (p := ⟨rb, 0, none⟩) hrl).trans hrb
  have bx2 := bx.on hb2
  have f0 := bx2.frozen 0
  have c0 := bx2.cell 0
  have c1 := bx2.cell 1
  simp at c0 c1
  clear y0 e0 e1 hB2 hb2
  gi_wp2
  obtain ⟨W2, hW2e⟩ : ∃ W2, V2.setCell ⟨V1.heap.size, 0, none⟩ (.int .i64 0) = W2 := ⟨_, rfl⟩
  have hs2 : W2.heap.size = V2.heap.size := by rw [← hW2e]; simp [World.setCell]
  have hB4 : Below w.heap.size w W2 := by rw [← hW2e]; exact hB3.setCell hB1s _
  have bx3 : Bx W2 V1.heap.size 0 0 := by rw [← hW2e]; exact bx2.set0 0
  have hwk := NW.out W2 hB4
  rw [hs2] at hwk
  rw [hW2e]
  have hB5 : Below w.heap.size w (W2.alloc (.cells #[.slice (some ⟨g, 0, none⟩) 1 1, .int .i64 0, .int .i64 0, .bool true, .int .i64 0, .int .i64 0, .slice none 0 0, .slice none 0 0, .int .i64 0] 59)) := hB4.alloc hB4.size _
  have bx4 : Bx (W2.alloc (.cells #[.slice (some ⟨g, 0, none⟩) 1 1, .int .i64 0, .int .i64 0, .bool true, .int .i64 0, .int .i64 0, .slice none 0 0, .slice none 0 0, .int .i64 0] 59)) V1.heap.size 0 0 := bx3.on (below_alloc W2 _)
  have hBw := bx2.lt
  have hwl := hB3.size
  clear bx bx2 bx3 c0 c1 f0 y2 NW hW2e hs2 hB4 hB3 hEs HLS
  generalize W2.alloc (.cells #[.slice (some ⟨g, 0, none⟩) 1 1, .int .i64 0, .int .i64 0, .bool true, .int .i64 0, .int .i64 0, .slice none 0 0, .slice none 0 0, .int .i64 0] 59) = W3 at hwk hB5 bx4 ⊢
  generalize V1.heap.size = B at bx4 hBw hB1s ⊢
  generalize V2.heap.size = wb at hwk hBw hwl ⊢
  have hpb : ∀ k, k < t.length → blankP (iAt t k) = false → (pasW orc (keyE g x).L ⟨0, k⟩) = ⟨0, k⟩ := fun k hk hb => by
    rw [hEL]
    show Pl.plus ⟨0, k⟩ (orc.past (rst (one t) ⟨0, k⟩)) = _
    rw [rst_one, past_here hk hb]
    rfl
  have PB : ∀ m, CallsIn Fence.wide m Tryz.prog 21 #[.pointer (some ⟨wb, 0, none⟩), .agg #[.int .i64 0, .int .i64 0]] W3.drew fun en w' => en = .returned (.agg #[.int .i64 0, .int .i64 0]) ∧ Below W3.heap.size W3.drew w' := fun m => by
    have := (callsIn_wide (n := m)).2 (pastBlanks_any low.c hwk.drew hf (hokp 0 (Nat.zero_le _)))
    rw [hpb 0 (by omega) hw.hd.is.1] at this
    exact this
  have S0 : Bx W3.drew B 0 0 := bx4
  refine region_pickN (fun W => Bx W B 0 0) (by kernel_rfl) ?_
  show Any _ _ _ _ _ _ 8 _ ⟨#[_,_,_,_,_,_,_,_,_,_,_,_,_,_,_,_,_,_,_,_,_,_,_,_,_,_,_,_,_,_,_,_,_,_,_,_,_,_,_,_,_,_,_,_,_,_,_,_,_,_,_,_,_,_,_,_,_,_,_,_,_,_,_,_,_,_,_,_,_,_,_,_,_,_,_,_,_,_,_,_], []⟩ W3.drew
  refine .tl 0 (.agg #[.int .i64 0, .int .i64 0]) rfl (fun w hw => by have a1 := Bx.cell hw 0; have a2 := Bx.cell hw 1; simp at a1 a2; go_simp) S0 ?_
  refine .tl 2 (.agg #[.int .i64 0, .int .i64 0]) rfl (fun w hw => by have a1 := Bx.cell hw 0; have a2 := Bx.cell hw 1; simp at a1 a2; go_simp) S0 ?_
  refine .on 1 rfl rfl fun K hK => ?_
  go_simp
  first | refine tr2 ?_ | refine tr1 ?_
  refine (PB _).mono ?_
  clear PB
  rintro en7 V7 ⟨rfl, hb7⟩
  have S7 : Bx V7 B 0 0 := S0.on hb7
  have hwk7 := hwk.drew.on (hb7.mono (Nat.le_refl _))
  have hB7 : Below w.heap.size w V7 := hB5.drew.trans (hb7.mono hB5.size)
  have NO := fun m => (callsIn_wide (n := m)).2 (node_whole low hf hwk7 (hokp 0 (Nat.zero_le _)) (hT.on hB7) (by omega))
  refine hK _ _ S7 ?_
  clear hK K
  show Any _ _ _ _ _ _ 5 _ ⟨#[_,_,_,_,_,_,_,_,_,_,_,_,_,_,_,_,_,_,_,_,_,_,_,_,_,_,_,_,_,_,_,_,_,_,_,_,_,_,_,_,_,_,_,_,_,_,_,_,_,_,_,_,_,_,_,_,_,_,_,_,_,_,_,_,_,_,_,_,_,_,_,_,_,_,_,_,_,_,_,_], []⟩ V7
  refine .tp 3 (.bool false) S7 ?_
  refine .tp 4 (.bool false) S7 ?_
  refine .on 5 rfl rfl fun K hK => ?_
  go_simp
  first | refine tr2 ?_ | refine tr1 ?_
  refine (NO _).mono ?_
  clear NO
  rintro en8 V8 ⟨r, ⟨f, hrun⟩, hke, hpost⟩
  have hrr : r = .ok (scaW orc ⟨⟨0, n⟩, [], [], 0⟩ hs0 (orc.fold [(t.drop 0).take n]) 1) := by
    have hrun : nodW orc (keyE g x).L 0 0 true f ⟨0, 0⟩ = some r := hrun
    rw [hEL] at hrun
    exact (nodW_det (nod_key hw) hrun).symm
  subst hrr
  obtain ⟨rfl, ov, tv, hwk8⟩ := hpost
  have S8 := S7.kee hke
  have hB8 : Below w.heap.size w V8 := hB7.trans ((hke.below (Nat.le_of_lt hwk7.lt)).mono hwl)
  refine hK _ _ S8 ?_
  clear hK K
  show Any _ _ _ _ _ _ 2 _ ⟨#[_,_,_,_,_,_,_,_,_,_,_,_,_,_,_,_,_,_,_,_,_,_,_,_,_,_,_,_,_,_,_,_,_,_,_,_,_,_,_,_,_,_,_,_,_,_,_,_,_,_,_,_,_,_,_,_,_,_,_,_,_,_,_,_,_,_,_,_,_,_,_,_,_,_,_,_,_,_,_,_], []⟩ V8
  refine .tp 6 (.bool false) S8 ?_
  refine .tp 7 (.bool false) S8 ?_
  refine Any.done (by kernel_rfl) ?_
  rename_i Kb hKb
  refine hKb _ _ ?_
  clear hKb
  have p4 := hwk8.cell 4
  have p5 := hwk8.cell 5
  simp only [scaW, telW] at p4 p5
  simp at p4 p5
  have hpn : n < t.length := by omega
  have PB : ∀ m, CallsIn Fence.wide m Tryz.prog 21 #[.pointer (some ⟨wb, 0, none⟩), .agg #[.int .i64 0, .int .i64 (n : Nat)]] V8 fun en w' => en = .returned (.agg #[.int .i64 0, .int .i64 (n : Nat)]) ∧ Below V8.heap.size V8 w' := fun m => by
    have := (callsIn_wide (n := m)).2 (pastBlanks_any low.c hwk8 hf (hokp n (by omega)))
    rw [hpb n hpn (by rw [h58]; decide)] at this
    exact this
  have NX : Hid (∀ V9 : World, Below V8.heap.size V8 V9 → ∀ m,
      CallsIn Fence.wide m Tryz.prog 22 #[.pointer (some ⟨wb, 0, none⟩), .agg #[.int .i64 0, .int .i64 (n : Nat)], .int .i64 58] V9 (fun en w' => en = .returned (.bool true) ∧ Below V9.heap.size V9 w') ∧
      CallsIn Fence.wide m Tryz.prog 24 #[.agg #[.int .i64 0, .int .i64 (n : Nat)], .int .i64 1] V9 (fun en w' => en = .returned (.agg #[.int .i64 0, .int .i64 ((n + 1 : Nat) : Int)]) ∧ Below V9.heap.size V9 w') ∧
      CallsIn Fence.wide m Tryz.prog 23 #[.pointer (some ⟨wb, 0, none⟩), .agg #[.int .i64 0, .int .i64 ((n + 1 : Nat) : Int)]] V9 (fun en w' => en = .returned (.bool true) ∧ Below V9.heap.size V9 w') ∧
      CallsIn Fence.wide m Tryz.prog 19 #[.slice (some ⟨g, 0, none⟩) 1 1, .agg #[.int .i64 0, .int .i64 (n : Nat)]] V9 (fun en w' => en = .returned (.int .i64 (n : Nat)) ∧ Below V9.heap.size V9 w')) := fun V9 hb m => by
    have hk9 := hwk8.on hb
    refine ⟨?_, ?_, ?_, ?_⟩
    · have := (callsIn_wide (n := m)).2 (stands_any hk9 hf (hokp n (by omega)) 58)
      rw [hEL, sta_here hpn, h58] at this
      exact this
    · exact (callsIn_wide (n := m)).2 (plus_any ⟨0, n⟩ 1 V9 (by show ((n : Nat) : Int) + _ ≤ _; omega))
    · have := (callsIn_wide (n := m)).2 (blankAt_any low.c hk9 hf (hokp (n + 1) (by omega)))
      rw [hEL, bla_one hl h32] at this
      exact this
    · have := (callsIn_wide (n := m)).2 (columnOf_any (c := 1) (p := ⟨0, n⟩) (x := x) (hk9.lin.1) hf.l2 rfl (by show n ≤ 1300; omega) (by have : x.n = 0 := congrArg Lp.n hx; omega))
      have hn0 : max x.n 0 + ((n : Nat) : Int) = (n : Nat) := by have : x.n = 0 := congrArg Lp.n hx; omega
      rw [hn0] at this
      exact this
  have b0 := S8.cell 0
  have b1 := S8.cell 1
  simp at b0 b1
  have hBl := S8.lt
  have hnI : ((n : Nat) : Int) ≤ 1300 := by omega
  clear hwk8 hwk7 hwk hke S7 S0 bx4 hrun hpb hokp hf
  gi_wp2
  first | refine tr2 ?_ | refine tr1 ?_
  gi_at_call 21
  refine (PB _).mono ?_
  clear PB
  rintro en9 V9 ⟨rfl, hb9⟩
  have hb10 : Below V8.heap.size V8 (V9.alloc (.cells #[.int .i64 0, .int .i64 (n : Nat)] 52)) := hb9.alloc hb9.size _
  have bc : Bx (V9.alloc (.cells #[.int .i64 0, .int .i64 (n : Nat)] 52)) V9.heap.size 0 (n : Nat) := World.alloc_heap_new V9 _
  have bf := (hb10.cell (p := ⟨B, 1, none⟩) hBl).trans b1
  have N1 := fun m => (NX.out _ hb10 m).1
  have q0 := bc.cell 0
  have q1 := bc.cell 1
  simp at q0 q1
  clear p4 p5 b0
  gi_wp2
  generalize V9.alloc (.cells #[.int .i64 0, .int .i64 (n : Nat)] 52) = W9 at hb10 bc bf N1 q0 q1 ⊢
  generalize V9.heap.size = C at bc q0 q1 ⊢
  first | refine tr2 ?_ | refine tr1 ?_
  gi_at_call 22
  refine (N1 _).mono ?_
  clear N1
  rintro en10 V10 ⟨rfl, hb11⟩
  have hbA := hb10.trans (hb11.mono hb10.size)
  have bcA := bc.on hb11
  clear q0 q1 bc bf
  have q0 := bcA.cell 0
  have q1 := bcA.cell 1
  simp at q0 q1
  have N2 := fun m => (NX.out _ hbA m).2.1
  gi_wp2
  first | refine tr2 ?_ | refine tr1 ?_
  gi_at_call 24
  refine (N2 _).mono ?_
  clear N2
  rintro en11 V11 ⟨rfl, hb12⟩
  have hbB := hbA.trans (hb12.mono hbA.size)
  have bcB := bcA.on hb12
  clear q0 q1 bcA
  have N3 := fun m => (NX.out _ hbB m).2.2.1
  gi_wp2
  first | refine tr2 ?_ | refine tr1 ?_
  gi_at_call 23
  refine (N3 _).mono ?_
  clear N3
  rintro en12 V12 ⟨rfl, hb13⟩
  have hbC := hbB.trans (hb13.mono hbB.size)
  have bcC := bcB.on hb13
  have q0 := bcC.cell 0
  have q1 := bcC.cell 1
  simp at q0 q1
  have bf := (hbC.cell (p := ⟨B, 1, none⟩) hBl).trans b1
  have N4 := fun m => (NX.out _ hbC m).2.2.2
  have hB12 : Below w.heap.size w V12 := hB8.trans (hbC.mono hB8.size)
  have hwr : IntKind.i64.wrap (((n : Nat) : Int) - 0) = ((n : Nat) : Int) := by rw [Int.sub_zero]; exact wrapB (by omega) (by omega)
  clear bcB b1 hbB hbA hb10 hb11 hb12 NX
  by_cases hn : n > 1024
  · have hn' : (1024 : Int) < ((n : Nat) : Int) := by omega
    have hpost : (if n > 1024 then (0 : Int) else (n : Nat)) = 0 ∧ decide (n ≤ 1024) = false := ⟨if_pos hn, decide_eq_false (by omega)⟩
    clear N4 hn
    gi_wp2
    exact bodyPost_ret (results_t2 (va := .int .i64 0) (vb := .bool false) rfl rfl rfl) rfl ⟨rfl, hB12⟩
  · have hn' : ¬ (1024 : Int) < ((n : Nat) : Int) := by omega
    have hpost : (if n > 1024 then (0 : Int) else (n : Nat)) = (n : Nat) ∧ decide (n ≤ 1024) = true := ⟨if_neg hn, decide_eq_true (by omega)⟩
    clear hn
    gi_wp2
    first | refine tr2 ?_ | refine tr1 ?_
    gi_at_call 19
    refine (N4 _).mono ?_
    clear N4
    rintro en13 V13 ⟨rfl, hb14⟩
    have hB13 : Below w.heap.size w V13 := hB12.trans (hb14.mono hB12.size)
    gi_wp2
    exact bodyPost_ret (results_t2 (va := .int .i64 (n : Nat)) (vb := .bool true) rfl rfl rfl) rfl ⟨rfl, hB13⟩
end Go.Proofs.YtipbhdhiklmieabGreatDoor
