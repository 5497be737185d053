/- gather: the wide list of a list in base 8 or 16. -/
import Derived.Test.YtpffegkckejpiaaBack
import Derived.Test.YtpffegkckejpiaaWide
import Derived.Test.YtpffegkckejpiaaPlus
set_option linter.unusedVariables false
set_option linter.unusedSimpArgs false
namespace Go.Proofs.Ytpffegkckejpiaa
open Go.RowKit Go.Shelf
attribute [local go_sem] Oper.semAt_some

/-- The mark that a range over a function leaves. -/
def mrk (D : Nat) : Deferred := { target := .collected D, args := #[] }

/-- Between two rounds of gather. -/
def GInv (w : World) (p : Option Addr) (cap base : Nat) (L : List Nat) (a : Act) (W : World) : Prop :=
  ∃ (k : Nat) (u : Value) (M Ds : List Nat) (s6 s7 s8 s9 s10 s11 s12 s13 s14 s15 s16 s17 s18 s19 s20 s21 s22 s23 s24 s25 s26 s27 s28 s29 s30 s31 s32 s33 s34 s35 s36 s37 s38 s39 : Value), k ≤ L.length ∧ a = { tmps := #[.slice p k cap, .int .u64 base, undef, .pointer (some ⟨w.heap.size, 0, none⟩), .slice none 0 0, u, s6, s7, s8, s9, s10, s11, s12, s13, s14, s15, s16, s17, s18, s19, s20, s21, s22, s23, s24, s25, s26, s27, s28, s29, s30, s31, s32, s33, s34, s35, s36, s37, s38, s39, undef], defers := Ds.map mrk } ∧
    Hid (Own .u32 90 (w.heap.size + 1) W u M ∧ Dg 1000000000 M ∧ Canon M ∧ val 1000000000 M = val base (L.drop k) ∧ M.length ≤ 64 * (L.length - k)) ∧
    Boxed W w.heap.size 69 (.int .u64 base) ∧ Below w.heap.size w W ∧ Hid (Ds.Nodup ∧ ∀ D, D ∈ Ds → w.heap.size ≤ D ∧ W.heap[D]? = some (.deferred (some [])))

theorem box_base (w : World) (v : Value) : Boxed (w.alloc (.cells #[v] 69)) w.heap.size 69 v := Boxed.new w 69 v

/-- The digits that have come, the last one first. -/
def came (T : List Nat) (pre : List (Pl T)) : List Nat := (pre.map fun x => nAt T x.1).reverse
theorem came_snoc (T : List Nat) (pre : List (Pl T)) (x : Pl T) : came T (pre ++ [x]) = nAt T x.1 :: came T pre := by unfold came; simp
theorem came_dg {T : List Nat} {b : Nat} (h : Dg b T) (pre : List (Pl T)) : Dg b (came T pre) := by
  intro d hd
  unfold came at hd
  rw [List.mem_reverse] at hd
  obtain ⟨x, -, rfl⟩ := List.mem_map.1 hd
  exact h.at x.2
theorem came_len (T : List Nat) (pre : List (Pl T)) : (came T pre).length = pre.length := by unfold came; simp
theorem down_map' (L : List Nat) : ∀ k, k ≤ L.length → (down k).map (nAt L) = (L.take k).reverse
  | 0, _ => by simp [down]
  | k + 1, h => by
    rw [down, List.map_cons, down_map' L k (by omega), take_snoc (by omega), List.reverse_append]
    rfl
theorem came_all {T : List Nat} {ys : List (Pl T)} (h : ys.map (·.1) = down T.length) : came T ys = T := by
  unfold came
  have h2 : (ys.map fun x => nAt T x.1) = (ys.map (·.1)).map (nAt T) := by rw [List.map_map]; rfl
  rw [h2, h, down_map' T T.length (Nat.le_refl _), List.take_length, List.reverse_reverse]

/-- Between two rounds of gather's range: what the two variables hold. -/
def Gr (W : World) (base : Nat) (q : Option Addr) (pc : Nat) (T : List Nat) (pre : List (Pl T)) (W' : World) : Prop :=
  Boxed W' W.heap.size 69 (.int .u64 ((base ^ pre.length : Nat) : Int)) ∧ Boxed W' (W.heap.size + 1) 69 (.int .u64 ((val base (came T pre) : Nat) : Int)) ∧ Boxed W' (W.heap.size + 1 + 1) 62 (.slice q T.length pc) ∧ Below W.heap.size W W'
theorem Gr_own (W : World) (base : Nat) (q : Option Addr) (pc : Nat) (T : List Nat) (B : Nat) (hB : W.heap.size ≤ B) : OwnFrom B (Gr W base q pc T) :=
  OwnFrom.and (Own.from (boxed_own _ _ _) _) (OwnFrom.and (Own.from (boxed_own _ _ _) _) (OwnFrom.and (Own.from (boxed_own _ _ _) _) (ownFrom_below (Nat.le_refl _) hB)))

/-- The world in which gather's range begins. -/
def gW (W : World) (q : Option Addr) (n c : Nat) : World := ((W.alloc (.cells #[.int .u64 1] 69)).alloc (.cells #[.int .u64 0] 69)).alloc (.cells #[.slice q n c] 62)
theorem gW_facts (W : World) (q : Option Addr) (n c : Nat) : (gW W q n c).heap.size = W.heap.size + 3 ∧ Boxed (gW W q n c) W.heap.size 69 (.int .u64 1) ∧ Boxed (gW W q n c) (W.heap.size + 1) 69 (.int .u64 0) ∧ Boxed (gW W q n c) (W.heap.size + 1 + 1) 62 (.slice q n c) ∧ Below W.heap.size W (gW W q n c) := by
  have b1 := Boxed.new W 69 (.int .u64 1)
  have b2 := Boxed.new (W.alloc (.cells #[.int .u64 1] 69)) 69 (.int .u64 0)
  have b3 := Boxed.new ((W.alloc (.cells #[.int .u64 1] 69)).alloc (.cells #[.int .u64 0] 69)) 62 (.slice q n c)
  simp only [World.size_alloc] at b2 b3
  exact ⟨by simp [gW], (b1.alloc _).alloc _, b2.alloc _, b3, (((Below.refl _ W).alloc (Nat.le_refl _) _).alloc (by simp) _).alloc (by simp; omega) _⟩

theorem pow8 {base j : Nat} (hb : base ≤ 16) (hj : j ≤ 8) (hb1 : 1 ≤ base) : base ^ j ≤ 4294967296 := by
  have h1 : base ^ j ≤ 16 ^ j := Nat.pow_le_pow_left hb j
  have h2 : 16 ^ j ≤ 16 ^ 8 := Nat.pow_le_pow_right (by decide) hj
  have h3 : 16 ^ 8 = 4294967296 := by decide
  omega

theorem wrapu (x : Nat) (h : x < 18446744073709551616) : IntKind.u64.wrap (x : Int) = (x : Int) := by rw [IntKind.wrap_u64]; omega

theorem capture {F : Fence} {n : Nat} {P : Program} {ops : Array Oper} {Q : Exit → Act → World → Prop} {id : Nat} {a : Act} {w : World} (hm : P.follows .mixedOrders = true)
    (h : ∀ G : Nat → Array Bool → Act → World → Prop,
      (∀ (fuel : Nat) (listed : Array Bool) (a : Act) (w : World) (rs : List Nat), Region.ready .any ops listed = rs → rs ≠ [] → (∀ i, i ∈ rs → wpOpIn F n P ops Q i (G fuel (listed.setIfInBounds i true)) a w) → G (fuel + 1) listed a w) →
      (∀ (fuel : Nat) (listed : Array Bool) (a : Act) (w : World), Region.ready .any ops listed = [] → Q .normal a w → G fuel listed a w) → G ops.size (Array.replicate ops.size false) a w.drew) : (Code.region id ops true).wpIn F n P Q a w :=
  wpIn_region_any hm (h (wpAnyIn F n P .any ops Q) (fun fuel listed a w rs hr hne hs => wpAnyIn_ready hr hne hs) (fun fuel listed a w hr hq => wpAnyIn_done hr hq fuel))
theorem allR_nil {F : Fence} {n : Nat} {P : Program} {ops : Array Oper} {Q : Exit → Act → World → Prop} {G : Array Bool → Act → World → Prop} {listed : Array Bool} {a : Act} {w : World} : ∀ i, i ∈ ([] : List Nat) → wpOpIn F n P ops Q i (G (listed.setIfInBounds i true)) a w := fun _ h => by cases h
theorem allR_cons {F : Fence} {n : Nat} {P : Program} {ops : Array Oper} {Q : Exit → Act → World → Prop} {G : Array Bool → Act → World → Prop} {listed : Array Bool} {a : Act} {w : World} {i : Nat} {o : Oper} {rs : List Nat} (ho : ops[i]? = some o)
    (h : ∀ K' : Act → World → Prop, (∀ a w, G (listed.setIfInBounds i true) a w → K' a w) → if Region.wanted o (yielded ops a.tmps) = true then Oper.wpIn F n P o a w K' Q else (∀ f, o.about P w a.eval = some f → F.fn f) ∧ K' (a.put o.dst undef) w)
    (hs : ∀ j, j ∈ rs → wpOpIn F n P ops Q j (G (listed.setIfInBounds j true)) a w) : ∀ j, j ∈ i :: rs → wpOpIn F n P ops Q j (G (listed.setIfInBounds j true)) a w := fun j hj => by
  rcases List.mem_cons.1 hj with rfl | hj
  · exact wpOpIn_step ho h
  · exact hs j hj

theorem leaves_marks {F : Fence} {n : Nat} {fn : Func} {tmps : Array Value} {R : Ending → World → Prop} (w : World) : ∀ (Ds : List Nat) (W : World), Ds.Nodup → (∀ D, D ∈ Ds → w.heap.size ≤ D ∧ W.heap[D]? = some (.deferred (some []))) → Below w.heap.size w W →
    (∀ W', (∀ (k : Nat) (o : Obj), W.heap[k]? = some o → o.isCells = true → W'.heap[k]? = some o) → Below w.heap.size w W' → ∃ v, (results fn tmps).run Try.prog W' = .ok v W' ∧ R (.returned v) W') →
    LeavesInM F n Try.prog fn tmps R (Ds.map mrk) .returning W
  | [], W, _, _, hB, h => h W (fun _ _ h1 _ => h1) hB
  | D :: Ds, W, hnd, hD, hB, h => by
    obtain ⟨hD0, hDk⟩ := hD D (List.mem_cons_self ..)
    obtain ⟨hn1, hn2⟩ := List.nodup_cons.1 hnd
    refine ⟨by simp, .inl ⟨D, _, rfl, run_takeDeferred hDk, ?_⟩⟩
    refine leaves_marks w Ds (W.putObj D (.deferred none)) hn2 (fun E hE => ?_) (hB.trans (belowK_b (w := w) (Nat.le_refl _) _ D _ (.deferred none) hD0 hDk rfl rfl)) (fun W' h1 h2 => h W' (fun k o hk ho => h1 k o ?_ ho) h2)
    · have hE' := hD E (List.mem_cons_of_mem _ hE)
      refine ⟨hE'.1, ?_⟩
      rw [World.putObj_heap_other (by rintro rfl; exact hn1 hE)]
      exact hE'.2
    · rw [World.putObj_heap_other (by rintro rfl; rw [hDk] at hk; cases hk; cases ho)]
      exact hk

set_option maxRecDepth 100000 in
set_option maxHeartbeats 4000000 in
theorem gather_in (n : Nat) (hn : 3 ≤ n) (p : Option Addr) (cap base : Nat) (L : List Nat) (w : World) (hm : L.length ≤ 5000) (hc : L.length ≤ cap) (hb : base ≤ 16) (hb2 : 2 ≤ base) (hd : Dg base L) (hI : Rd .u8 w p L) :
    CallsIn Fence.wide n Try.prog 52 #[.slice p L.length cap, .int .u64 base] w fun e w' => ∃ v M, e = .returned v ∧ Own .u32 90 w.heap.size w' v M ∧ Below w.heap.size w w' ∧ Dg 1000000000 M ∧ Canon M ∧ val 1000000000 M = val base L ∧ M.length ≤ 1000000 := by
  have h1 : 1 ≤ n := by omega
  refine callsIn_of_wp_marks Try.func52 rfl trivial ?_ rfl
  simp only [Try.ntmps52, List.size_toArray, List.length_cons, List.length_nil, Nat.reduceAdd, Nat.reduceSub, Array.replicate_succ, Array.replicate_zero, List.push_toArray, List.append_toArray, List.nil_append, List.cons_append]
  gi_wp2
  refine wpIn_loop (GInv w p cap base L) (fun a _ => slen (a.tmps.getD 0 undef)) ?_ ?_
  · refine ⟨L.length, .slice none 0 0, [], [], undef, undef, undef, undef, undef, undef, undef, undef, undef, undef, undef, undef, undef, undef, undef, undef, undef, undef, undef, undef, undef, undef, undef, undef, undef, undef, undef, undef, undef, undef, undef, undef, undef, undef, Nat.le_refl _, rfl, ⟨Own.nil _ _ _ _, Dg.nil _, canon_nil, (by rw [List.drop_length]; rfl), Nat.zero_le _⟩, box_base w _, (Below.refl _ w).alloc (Nat.le_refl _) _, List.nodup_nil, (fun D h => by cases h)⟩
  · rintro a W ⟨k, u, M, Ds, s6, s7, s8, s9, s10, s11, s12, s13, s14, s15, s16, s17, s18, s19, s20, s21, s22, s23, s24, s25, s26, s27, s28, s29, s30, s31, s32, s33, s34, s35, s36, s37, s38, s39, hk, rfl, HM, bB, hBw, HD⟩
    obtain ⟨pu, cu, rfl, -⟩ := HM.out.1.form
    by_cases h0 : 0 < k
    · have h0' : (0 : Int) < k := by omega
      obtain ⟨b, o, rfl, hcell⟩ := hI.at (by omega)
      clear hcell
      by_cases h8 : (8 : Int) < k
      · skip
        obtain ⟨r, hr⟩ : ∃ r, k - 8 = r := ⟨_, rfl⟩
        have hrI : (k : Int) - 8 = (r : Int) := by omega
        have hrk : r < k := by omega
        have hk8 : k - r ≤ 8 := by omega
        clear hr
        have hT : ((L.take k).drop r).length = k - r := by rw [List.length_drop, List.length_take]; omega
        have hRT : Rd .u8 w (some ⟨b, o + r, none⟩) ((L.take k).drop r) := (hI.take k).drop r
        have HV : Hid (L.drop r = (L.take k).drop r ++ L.drop k) := by
          show _ = _
          conv => lhs; rw [← List.take_append_drop k L, List.drop_append_of_le_length (by rw [List.length_take]; omega)]
        have S1 : ∀ w2, (Instr.slice 62 (.slice (some ⟨b, o, none⟩) k cap) (some (.int .i64 (r : Int))) none none).run Try.prog w2 = .ok (.slice (some ⟨b, o + r, none⟩) (k - r) (cap - r)) w2 := by
          intro w2
          have e0 : (r : Int) ≤ k := by omega
          have e1 : (k : Int) ≤ cap := by omega
          have e2 : ¬ cap = r := by omega
          have u := Try.underlying62
          have z := Try.sizeOf5
          simp [go_sem, e0, e1, e2, add_plain]
        have S2 := slice_to8 (some ⟨b, o, none⟩) k cap r (by omega)
        have hcr : ¬ cap = r := by omega
        have hdT : Dg base ((L.take k).drop r) := (fun d hd2 => hd d (List.mem_of_mem_take (List.mem_of_mem_drop hd2)))
        generalize (L.take k).drop r = T at hT hRT HV hdT
        have hTL : T.length = (k - r) := hT
        have HTL : Hid (T.length = (k - r)) := hT
        clear hT hTL
        gi_wp2_with (first | (refine ⟨trivial, ?_⟩; gi_at_call 69; refine (backward_in _ _ _ _ _).mono ?_; rintro e w' ⟨rfl, rfl⟩))
        change Code.wpIn _ _ _ _ _ _ (gW W (some ⟨b, o + r, none⟩) (k - r) (cap - r))
        obtain ⟨hsz, b7, b8, bI, hgB⟩ := gW_facts W (some ⟨b, o + r, none⟩) (k - r) (cap - r)
        generalize gW W (some ⟨b, o + r, none⟩) (k - r) (cap - r) = W0 at hsz b7 b8 bI hgB ⊢
        have hbl : b < w.heap.size := hI.lt ⟨b, o, none⟩ rfl (by omega)
        have hbW : b < W.heap.size := Nat.lt_of_lt_of_le hbl hBw.size
        rw [← HTL.out] at bI
        refine wpIn_rangeFunc_ownG rfl h1 (gf := 78) (lb := #[.pointer (some ⟨W.heap.size + 1 + 1, 0, none⟩)]) rfl trivial (enters_of Try.func78 (by kernel_rfl) rfl)
          (back_stops (n - 1) (by omega) (W.heap.size + 1 + 1) W.heap.size (cap - r) (some ⟨b, o + r, none⟩) T (by have := HTL.out; omega) W0 (by omega) (by omega) bI.cell ((hRT.on hBw).on hgB) (fun a e _ => by cases e; exact hbW))
          (fun h k => Kp.trans h k) (hKb1 (by omega) (by omega)) (Below.refl _ _) (fun _ => rfl)
          (Gr W base (some ⟨b, o + r, none⟩) (cap - r) T) (fun _ _ _ => False) (Gr_own W base _ _ T _ (by omega)) (fun c => ownFrom_pure _ _)
          ⟨b7, b8, bI, hgB⟩
          (fun x => { tmps := #[.slice (some ⟨b, o, none⟩) k cap, .int .u64 base, undef, .pointer (some ⟨w.heap.size, 0, none⟩), .slice none 0 0, .slice pu M.length cu, .int .i64 (r : Int), .pointer (some ⟨W.heap.size, 0, none⟩), .pointer (some ⟨W.heap.size + 1, 0, none⟩), s9, .int .u8 (nAt T x.1 : Nat), .slice (some ⟨b, o, none⟩) k cap, .int .i64 k, .bool true, .slice (some ⟨b, o, none⟩) k cap, .int .i64 k, .int .i64 (r : Int), .int .i64 (r : Int), .slice (some ⟨b, o, none⟩) k cap, .int .i64 (r : Int), .slice (some ⟨b, o + r, none⟩) (k - r) (cap - r), .func (.func 78) #[] #[.pointer (some ⟨W.heap.size + 1 + 1, 0, none⟩)], .int .i64 (x.1 : Nat), .int .u8 (nAt T x.1 : Nat), s24, s25, s26, s27, s28, s29, s30, s31, s32, s33, s34, s35, s36, s37, s38, s39, undef], defers := [] }) ?assign ?body ?done ?stop
        case assign =>
          intro l x W K hK
          simp only [encB]
          gi_wp2
          exact hK
        case body =>
          clear b7 b8 bI hgB
          rintro lo pre x W' ⟨c7, c8, cI, hB'⟩ hlt
          have k7 := c7.cell
          have k8 := c8.cell
          have f7 := c7.frozen
          have f8 := c8.frozen
          have k3 := (hB'.cell (p := ⟨w.heap.size, 0, none⟩) bB.lt).trans bB.cell
          have hplen : pre.length + 1 ≤ 8 := by have := HTL.out; omega
          have hv8 := val_lt (b := base) (by omega) (came_dg hdT pre)
          rw [came_len] at hv8
          have hp1 := pow8 hb (show pre.length + 1 ≤ 8 from hplen) (by omega)
          rw [Nat.pow_succ] at hp1
          have hdx := hdT.at x.2
          have HN : Hid (∀ W2, Boxed W2 W.heap.size 69 (.int .u64 ((base ^ pre.length * base : Nat) : Int)) → Boxed W2 (W.heap.size + 1) 69 (.int .u64 ((val base (came T pre) * base + nAt T x.1 : Nat) : Int)) → Boxed W2 (W.heap.size + 1 + 1) 62 (.slice (some ⟨b, o + r, none⟩) T.length (cap - r)) → Below W.heap.size W W2 → Gr W base (some ⟨b, o + r, none⟩) (cap - r) T (pre ++ [x]) W2) := by
            intro W2 h1 h2 h3 h4
            refine ⟨?_, ?_, h3, h4⟩
            · rw [List.length_append, List.length_singleton, Nat.pow_succ]; exact h1
            · rw [came_snoc, val, Nat.mul_comm base, Nat.add_comm (nAt T x.1)]; exact h2
          generalize nAt T x.1 = d at hdx HN ⊢
          generalize val base (came T pre) = m at k8 hv8 HN c8
          have hmb : m * base + base ≤ base ^ pre.length * base := by
            have := Nat.mul_le_mul_right base (show m + 1 ≤ base ^ pre.length from hv8)
            rw [Nat.add_mul, Nat.one_mul] at this
            exact this
          generalize base ^ pre.length = f at k7 hp1 hmb HN c7 hv8
          have e1 : (f : Int) * (base : Int) = ((f * base : Nat) : Int) := by simp
          have e2 : (m : Int) * (base : Int) = ((m * base : Nat) : Int) := by simp
          generalize f * base = fb at e1 hp1 hmb HN
          generalize m * base = mb at e2 hmb HN
          have hbw := bB.lt
          have n1 : ¬ w.heap.size = W.heap.size := by omega
          have n2 : ¬ W.heap.size = w.heap.size := by omega
          have n3 : ¬ w.heap.size = W.heap.size + 1 := by omega
          have e3 : ((mb + d : Nat) : Int) = (mb : Int) + (d : Int) := by omega
          have q1 := wrapu fb (by omega)
          have q2 := wrapu mb (by omega)
          have q3 := wrapu (mb + d) (by omega)
          rw [e3] at q3
          have q4 := wrapu d (by omega)
          rw [e3] at HN
          obtain ⟨fa, hfa⟩ : ∃ fa : Value → Value → Value → Value → Value → Value → Value → Value → Value → Act, fa = fun v24 v25 v26 v27 v28 v29 v30 v31 v32 => { tmps := #[.slice (some ⟨b, o, none⟩) k cap, .int .u64 base, undef, .pointer (some ⟨w.heap.size, 0, none⟩), .slice none 0 0, .slice pu M.length cu, .int .i64 (r : Int), .pointer (some ⟨W.heap.size, 0, none⟩), .pointer (some ⟨W.heap.size + 1, 0, none⟩), s9, .int .u8 (d : Int), .slice (some ⟨b, o, none⟩) k cap, .int .i64 k, .bool true, .slice (some ⟨b, o, none⟩) k cap, .int .i64 k, .int .i64 (r : Int), .int .i64 (r : Int), .slice (some ⟨b, o, none⟩) k cap, .int .i64 (r : Int), .slice (some ⟨b, o + r, none⟩) (k - r) (cap - r), .func (.func 78) #[] #[.pointer (some ⟨W.heap.size + 1 + 1, 0, none⟩)], .int .i64 (x.1 : Nat), .int .u8 (d : Int), v24, v25, v26, v27, v28, v29, v30, v31, v32, s33, s34, s35, s36, s37, s38, s39, undef], defers := [] } := ⟨_, rfl⟩
          have HFIN : Hid (ownPostG W0.heap.size (Kp W.heap.size (W.heap.size + 1 + 1)) (Gr W base (some ⟨b, o + r, none⟩) (cap - r) T) (fun _ _ _ => False) (pre ++ [x]) W' .normal { tmps := #[], defers := [] } ((W'.drew.setCell ⟨W.heap.size, 0, none⟩ (.int .u64 (fb : Int))).setCell ⟨W.heap.size + 1, 0, none⟩ (.int .u64 ((mb : Int) + (d : Int))))) := by
            have d7 : Boxed W'.drew W.heap.size 69 (.int .u64 (f : Int)) := c7
            have d8 : Boxed W'.drew (W.heap.size + 1) 69 (.int .u64 (m : Int)) := c8
            have dI : Boxed W'.drew (W.heap.size + 1 + 1) 62 (.slice (some ⟨b, o + r, none⟩) T.length (cap - r)) := cI
            have bI2 := (dI.other (B' := W.heap.size) (by omega) (.int .u64 (fb : Int))).other (B' := W.heap.size + 1) (by omega) (.int .u64 ((mb : Int) + (d : Int)))
            have hBl := (((Below.refl W.heap.size W').drew.setCell (p := ⟨W.heap.size, 0, none⟩) (Nat.le_refl _) (.int .u64 (fb : Int))).setCell (p := ⟨W.heap.size + 1, 0, none⟩) (by show W.heap.size ≤ W.heap.size + 1; omega) (.int .u64 ((mb : Int) + (d : Int))))
            refine ⟨((KeepsOthers.drew W').trans ((KeepsOthers.setCell _ _ _).trans (KeepsOthers.setCell _ _ _))).from _, ⟨hBl, Eq.trans bI2 (Eq.symm cI)⟩, HN.out _ ?_ ?_ bI2 (hB'.trans hBl)⟩
            · exact (d7.set _).other (by omega) _
            · exact (d8.other (by omega) _).set _
          clear HN HM HD c7 c8 cI hB' hplen hv8 hdT HV HTL hRT bB hBw hd hI
          gi_wp2
          refine capture (by kernel_rfl) ?_
          intro G hstep hdone
          have T11111111111 : Hid (G 0 #[true, true, true, true, true, true, true, true, true, true, true] (fa (.int .u64 (f : Int)) (.int .u64 (base : Int)) (.int .u64 (fb : Int)) (.int .u64 (m : Int)) (.int .u64 (base : Int)) (.int .u64 (mb : Int)) (.int .u8 (d : Int)) (.int .u64 (d : Int)) (.int .u64 ((mb : Int) + (d : Int)))) (((W'.drew).setCell ⟨W.heap.size, 0, none⟩ (.int .u64 (fb : Int))).setCell ⟨W.heap.size + 1, 0, none⟩ (.int .u64 ((mb : Int) + (d : Int))))) := hdone _ _ _ _ (by kernel_rfl) (HFIN.out)
          have T11111111110 : Hid (G 1 #[true, true, true, true, true, true, true, true, true, true, false] (fa (.int .u64 (f : Int)) (.int .u64 (base : Int)) (.int .u64 (fb : Int)) (.int .u64 (m : Int)) (.int .u64 (base : Int)) (.int .u64 (mb : Int)) (.int .u8 (d : Int)) (.int .u64 (d : Int)) (.int .u64 ((mb : Int) + (d : Int)))) ((W'.drew).setCell ⟨W.heap.size, 0, none⟩ (.int .u64 (fb : Int)))) := by
            show G _ _ _ _
            rw [hfa]; dsimp only
            refine hstep _ _ _ _ [10] (by kernel_rfl) (by simp) (allR_cons rfl (fun K hK => ?_) allR_nil)
            · go_simp; rw [hfa] at T11111111111; exact hK _ _ T11111111111.out
          have T11111111100 : Hid (G 2 #[true, true, true, true, true, true, true, true, true, false, false] (fa (.int .u64 (f : Int)) (.int .u64 (base : Int)) (.int .u64 (fb : Int)) (.int .u64 (m : Int)) (.int .u64 (base : Int)) (.int .u64 (mb : Int)) (.int .u8 (d : Int)) (.int .u64 (d : Int)) (.int .u64 ((mb : Int) + (d : Int)))) W'.drew) := by
            show G _ _ _ _
            rw [hfa]; dsimp only
            refine hstep _ _ _ _ [9] (by kernel_rfl) (by simp) (allR_cons rfl (fun K hK => ?_) allR_nil)
            · go_simp; rw [hfa] at T11111111110; exact hK _ _ T11111111110.out
          have T11111111010 : Hid (G 2 #[true, true, true, true, true, true, true, true, false, true, false] (fa (.int .u64 (f : Int)) (.int .u64 (base : Int)) (.int .u64 (fb : Int)) (.int .u64 (m : Int)) (.int .u64 (base : Int)) (.int .u64 (mb : Int)) (.int .u8 (d : Int)) (.int .u64 (d : Int)) s32) ((W'.drew).setCell ⟨W.heap.size, 0, none⟩ (.int .u64 (fb : Int)))) := by
            show G _ _ _ _
            rw [hfa]; dsimp only
            refine hstep _ _ _ _ [8] (by kernel_rfl) (by simp) (allR_cons rfl (fun K hK => ?_) allR_nil)
            · go_simp; rw [hfa] at T11111111110; exact hK _ _ T11111111110.out
          have T11111111000 : Hid (G 3 #[true, true, true, true, true, true, true, true, false, false, false] (fa (.int .u64 (f : Int)) (.int .u64 (base : Int)) (.int .u64 (fb : Int)) (.int .u64 (m : Int)) (.int .u64 (base : Int)) (.int .u64 (mb : Int)) (.int .u8 (d : Int)) (.int .u64 (d : Int)) s32) W'.drew) := by
            show G _ _ _ _
            rw [hfa]; dsimp only
            refine hstep _ _ _ _ [8, 9] (by kernel_rfl) (by simp) (allR_cons rfl (fun K hK => ?_) (allR_cons rfl (fun K hK => ?_) allR_nil))
            · go_simp; rw [hfa] at T11111111100; exact hK _ _ T11111111100.out
            · go_simp; rw [hfa] at T11111111010; exact hK _ _ T11111111010.out
          have T11111110010 : Hid (G 3 #[true, true, true, true, true, true, true, false, false, true, false] (fa (.int .u64 (f : Int)) (.int .u64 (base : Int)) (.int .u64 (fb : Int)) (.int .u64 (m : Int)) (.int .u64 (base : Int)) (.int .u64 (mb : Int)) (.int .u8 (d : Int)) s31 s32) ((W'.drew).setCell ⟨W.heap.size, 0, none⟩ (.int .u64 (fb : Int)))) := by
            show G _ _ _ _
            rw [hfa]; dsimp only
            refine hstep _ _ _ _ [7] (by kernel_rfl) (by simp) (allR_cons rfl (fun K hK => ?_) allR_nil)
            · go_simp; rw [hfa] at T11111111010; exact hK _ _ T11111111010.out
          have T11111110000 : Hid (G 4 #[true, true, true, true, true, true, true, false, false, false, false] (fa (.int .u64 (f : Int)) (.int .u64 (base : Int)) (.int .u64 (fb : Int)) (.int .u64 (m : Int)) (.int .u64 (base : Int)) (.int .u64 (mb : Int)) (.int .u8 (d : Int)) s31 s32) W'.drew) := by
            show G _ _ _ _
            rw [hfa]; dsimp only
            refine hstep _ _ _ _ [7, 9] (by kernel_rfl) (by simp) (allR_cons rfl (fun K hK => ?_) (allR_cons rfl (fun K hK => ?_) allR_nil))
            · go_simp; rw [hfa] at T11111111000; exact hK _ _ T11111111000.out
            · go_simp; rw [hfa] at T11111110010; exact hK _ _ T11111110010.out
          have T11111100010 : Hid (G 4 #[true, true, true, true, true, true, false, false, false, true, false] (fa (.int .u64 (f : Int)) (.int .u64 (base : Int)) (.int .u64 (fb : Int)) (.int .u64 (m : Int)) (.int .u64 (base : Int)) (.int .u64 (mb : Int)) s30 s31 s32) ((W'.drew).setCell ⟨W.heap.size, 0, none⟩ (.int .u64 (fb : Int)))) := by
            show G _ _ _ _
            rw [hfa]; dsimp only
            refine hstep _ _ _ _ [6] (by kernel_rfl) (by simp) (allR_cons rfl (fun K hK => ?_) allR_nil)
            · go_simp; rw [hfa] at T11111110010; exact hK _ _ T11111110010.out
          have T11111100000 : Hid (G 5 #[true, true, true, true, true, true, false, false, false, false, false] (fa (.int .u64 (f : Int)) (.int .u64 (base : Int)) (.int .u64 (fb : Int)) (.int .u64 (m : Int)) (.int .u64 (base : Int)) (.int .u64 (mb : Int)) s30 s31 s32) W'.drew) := by
            show G _ _ _ _
            rw [hfa]; dsimp only
            refine hstep _ _ _ _ [6, 9] (by kernel_rfl) (by simp) (allR_cons rfl (fun K hK => ?_) (allR_cons rfl (fun K hK => ?_) allR_nil))
            · go_simp; rw [hfa] at T11111110000; exact hK _ _ T11111110000.out
            · go_simp; rw [hfa] at T11111100010; exact hK _ _ T11111100010.out
          have T11111011010 : Hid (G 3 #[true, true, true, true, true, false, true, true, false, true, false] (fa (.int .u64 (f : Int)) (.int .u64 (base : Int)) (.int .u64 (fb : Int)) (.int .u64 (m : Int)) (.int .u64 (base : Int)) s29 (.int .u8 (d : Int)) (.int .u64 (d : Int)) s32) ((W'.drew).setCell ⟨W.heap.size, 0, none⟩ (.int .u64 (fb : Int)))) := by
            show G _ _ _ _
            rw [hfa]; dsimp only
            refine hstep _ _ _ _ [5] (by kernel_rfl) (by simp) (allR_cons rfl (fun K hK => ?_) allR_nil)
            · go_simp; rw [hfa] at T11111111010; exact hK _ _ T11111111010.out
          have T11111011000 : Hid (G 4 #[true, true, true, true, true, false, true, true, false, false, false] (fa (.int .u64 (f : Int)) (.int .u64 (base : Int)) (.int .u64 (fb : Int)) (.int .u64 (m : Int)) (.int .u64 (base : Int)) s29 (.int .u8 (d : Int)) (.int .u64 (d : Int)) s32) W'.drew) := by
            show G _ _ _ _
            rw [hfa]; dsimp only
            refine hstep _ _ _ _ [5, 9] (by kernel_rfl) (by simp) (allR_cons rfl (fun K hK => ?_) (allR_cons rfl (fun K hK => ?_) allR_nil))
            · go_simp; rw [hfa] at T11111111000; exact hK _ _ T11111111000.out
            · go_simp; rw [hfa] at T11111011010; exact hK _ _ T11111011010.out
          have T11111010010 : Hid (G 4 #[true, true, true, true, true, false, true, false, false, true, false] (fa (.int .u64 (f : Int)) (.int .u64 (base : Int)) (.int .u64 (fb : Int)) (.int .u64 (m : Int)) (.int .u64 (base : Int)) s29 (.int .u8 (d : Int)) s31 s32) ((W'.drew).setCell ⟨W.heap.size, 0, none⟩ (.int .u64 (fb : Int)))) := by
            show G _ _ _ _
            rw [hfa]; dsimp only
            refine hstep _ _ _ _ [5, 7] (by kernel_rfl) (by simp) (allR_cons rfl (fun K hK => ?_) (allR_cons rfl (fun K hK => ?_) allR_nil))
            · go_simp; rw [hfa] at T11111110010; exact hK _ _ T11111110010.out
            · go_simp; rw [hfa] at T11111011010; exact hK _ _ T11111011010.out
          have T11111010000 : Hid (G 5 #[true, true, true, true, true, false, true, false, false, false, false] (fa (.int .u64 (f : Int)) (.int .u64 (base : Int)) (.int .u64 (fb : Int)) (.int .u64 (m : Int)) (.int .u64 (base : Int)) s29 (.int .u8 (d : Int)) s31 s32) W'.drew) := by
            show G _ _ _ _
            rw [hfa]; dsimp only
            refine hstep _ _ _ _ [5, 7, 9] (by kernel_rfl) (by simp) (allR_cons rfl (fun K hK => ?_) (allR_cons rfl (fun K hK => ?_) (allR_cons rfl (fun K hK => ?_) allR_nil)))
            · go_simp; rw [hfa] at T11111110000; exact hK _ _ T11111110000.out
            · go_simp; rw [hfa] at T11111011000; exact hK _ _ T11111011000.out
            · go_simp; rw [hfa] at T11111010010; exact hK _ _ T11111010010.out
          have T11111000010 : Hid (G 5 #[true, true, true, true, true, false, false, false, false, true, false] (fa (.int .u64 (f : Int)) (.int .u64 (base : Int)) (.int .u64 (fb : Int)) (.int .u64 (m : Int)) (.int .u64 (base : Int)) s29 s30 s31 s32) ((W'.drew).setCell ⟨W.heap.size, 0, none⟩ (.int .u64 (fb : Int)))) := by
            show G _ _ _ _
            rw [hfa]; dsimp only
            refine hstep _ _ _ _ [5, 6] (by kernel_rfl) (by simp) (allR_cons rfl (fun K hK => ?_) (allR_cons rfl (fun K hK => ?_) allR_nil))
            · go_simp; rw [hfa] at T11111100010; exact hK _ _ T11111100010.out
            · go_simp; rw [hfa] at T11111010010; exact hK _ _ T11111010010.out
          have T11111000000 : Hid (G 6 #[true, true, true, true, true, false, false, false, false, false, false] (fa (.int .u64 (f : Int)) (.int .u64 (base : Int)) (.int .u64 (fb : Int)) (.int .u64 (m : Int)) (.int .u64 (base : Int)) s29 s30 s31 s32) W'.drew) := by
            show G _ _ _ _
            rw [hfa]; dsimp only
            refine hstep _ _ _ _ [5, 6, 9] (by kernel_rfl) (by simp) (allR_cons rfl (fun K hK => ?_) (allR_cons rfl (fun K hK => ?_) (allR_cons rfl (fun K hK => ?_) allR_nil)))
            · go_simp; rw [hfa] at T11111100000; exact hK _ _ T11111100000.out
            · go_simp; rw [hfa] at T11111010000; exact hK _ _ T11111010000.out
            · go_simp; rw [hfa] at T11111000010; exact hK _ _ T11111000010.out
          have T11110011010 : Hid (G 4 #[true, true, true, true, false, false, true, true, false, true, false] (fa (.int .u64 (f : Int)) (.int .u64 (base : Int)) (.int .u64 (fb : Int)) (.int .u64 (m : Int)) s28 s29 (.int .u8 (d : Int)) (.int .u64 (d : Int)) s32) ((W'.drew).setCell ⟨W.heap.size, 0, none⟩ (.int .u64 (fb : Int)))) := by
            show G _ _ _ _
            rw [hfa]; dsimp only
            refine hstep _ _ _ _ [4] (by kernel_rfl) (by simp) (allR_cons rfl (fun K hK => ?_) allR_nil)
            · go_simp; rw [hfa] at T11111011010; exact hK _ _ T11111011010.out
          have T11110011000 : Hid (G 5 #[true, true, true, true, false, false, true, true, false, false, false] (fa (.int .u64 (f : Int)) (.int .u64 (base : Int)) (.int .u64 (fb : Int)) (.int .u64 (m : Int)) s28 s29 (.int .u8 (d : Int)) (.int .u64 (d : Int)) s32) W'.drew) := by
            show G _ _ _ _
            rw [hfa]; dsimp only
            refine hstep _ _ _ _ [4, 9] (by kernel_rfl) (by simp) (allR_cons rfl (fun K hK => ?_) (allR_cons rfl (fun K hK => ?_) allR_nil))
            · go_simp; rw [hfa] at T11111011000; exact hK _ _ T11111011000.out
            · go_simp; rw [hfa] at T11110011010; exact hK _ _ T11110011010.out
          have T11110010010 : Hid (G 5 #[true, true, true, true, false, false, true, false, false, true, false] (fa (.int .u64 (f : Int)) (.int .u64 (base : Int)) (.int .u64 (fb : Int)) (.int .u64 (m : Int)) s28 s29 (.int .u8 (d : Int)) s31 s32) ((W'.drew).setCell ⟨W.heap.size, 0, none⟩ (.int .u64 (fb : Int)))) := by
            show G _ _ _ _
            rw [hfa]; dsimp only
            refine hstep _ _ _ _ [4, 7] (by kernel_rfl) (by simp) (allR_cons rfl (fun K hK => ?_) (allR_cons rfl (fun K hK => ?_) allR_nil))
            · go_simp; rw [hfa] at T11111010010; exact hK _ _ T11111010010.out
            · go_simp; rw [hfa] at T11110011010; exact hK _ _ T11110011010.out
          have T11110010000 : Hid (G 6 #[true, true, true, true, false, false, true, false, false, false, false] (fa (.int .u64 (f : Int)) (.int .u64 (base : Int)) (.int .u64 (fb : Int)) (.int .u64 (m : Int)) s28 s29 (.int .u8 (d : Int)) s31 s32) W'.drew) := by
            show G _ _ _ _
            rw [hfa]; dsimp only
            refine hstep _ _ _ _ [4, 7, 9] (by kernel_rfl) (by simp) (allR_cons rfl (fun K hK => ?_) (allR_cons rfl (fun K hK => ?_) (allR_cons rfl (fun K hK => ?_) allR_nil)))
            · go_simp; rw [hfa] at T11111010000; exact hK _ _ T11111010000.out
            · go_simp; rw [hfa] at T11110011000; exact hK _ _ T11110011000.out
            · go_simp; rw [hfa] at T11110010010; exact hK _ _ T11110010010.out
          have T11110000010 : Hid (G 6 #[true, true, true, true, false, false, false, false, false, true, false] (fa (.int .u64 (f : Int)) (.int .u64 (base : Int)) (.int .u64 (fb : Int)) (.int .u64 (m : Int)) s28 s29 s30 s31 s32) ((W'.drew).setCell ⟨W.heap.size, 0, none⟩ (.int .u64 (fb : Int)))) := by
            show G _ _ _ _
            rw [hfa]; dsimp only
            refine hstep _ _ _ _ [4, 6] (by kernel_rfl) (by simp) (allR_cons rfl (fun K hK => ?_) (allR_cons rfl (fun K hK => ?_) allR_nil))
            · go_simp; rw [hfa] at T11111000010; exact hK _ _ T11111000010.out
            · go_simp; rw [hfa] at T11110010010; exact hK _ _ T11110010010.out
          have T11110000000 : Hid (G 7 #[true, true, true, true, false, false, false, false, false, false, false] (fa (.int .u64 (f : Int)) (.int .u64 (base : Int)) (.int .u64 (fb : Int)) (.int .u64 (m : Int)) s28 s29 s30 s31 s32) W'.drew) := by
            show G _ _ _ _
            rw [hfa]; dsimp only
            refine hstep _ _ _ _ [4, 6, 9] (by kernel_rfl) (by simp) (allR_cons rfl (fun K hK => ?_) (allR_cons rfl (fun K hK => ?_) (allR_cons rfl (fun K hK => ?_) allR_nil)))
            · go_simp; rw [hfa] at T11111000000; exact hK _ _ T11111000000.out
            · go_simp; rw [hfa] at T11110010000; exact hK _ _ T11110010000.out
            · go_simp; rw [hfa] at T11110000010; exact hK _ _ T11110000010.out
          have T11101011010 : Hid (G 4 #[true, true, true, false, true, false, true, true, false, true, false] (fa (.int .u64 (f : Int)) (.int .u64 (base : Int)) (.int .u64 (fb : Int)) s27 (.int .u64 (base : Int)) s29 (.int .u8 (d : Int)) (.int .u64 (d : Int)) s32) ((W'.drew).setCell ⟨W.heap.size, 0, none⟩ (.int .u64 (fb : Int)))) := by
            show G _ _ _ _
            rw [hfa]; dsimp only
            refine hstep _ _ _ _ [3] (by kernel_rfl) (by simp) (allR_cons rfl (fun K hK => ?_) allR_nil)
            · go_simp; rw [hfa] at T11111011010; exact hK _ _ T11111011010.out
          have T11101011000 : Hid (G 5 #[true, true, true, false, true, false, true, true, false, false, false] (fa (.int .u64 (f : Int)) (.int .u64 (base : Int)) (.int .u64 (fb : Int)) s27 (.int .u64 (base : Int)) s29 (.int .u8 (d : Int)) (.int .u64 (d : Int)) s32) W'.drew) := by
            show G _ _ _ _
            rw [hfa]; dsimp only
            refine hstep _ _ _ _ [3, 9] (by kernel_rfl) (by simp) (allR_cons rfl (fun K hK => ?_) (allR_cons rfl (fun K hK => ?_) allR_nil))
            · go_simp; rw [hfa] at T11111011000; exact hK _ _ T11111011000.out
            · go_simp; rw [hfa] at T11101011010; exact hK _ _ T11101011010.out
          have T11101010010 : Hid (G 5 #[true, true, true, false, true, false, true, false, false, true, false] (fa (.int .u64 (f : Int)) (.int .u64 (base : Int)) (.int .u64 (fb : Int)) s27 (.int .u64 (base : Int)) s29 (.int .u8 (d : Int)) s31 s32) ((W'.drew).setCell ⟨W.heap.size, 0, none⟩ (.int .u64 (fb : Int)))) := by
            show G _ _ _ _
            rw [hfa]; dsimp only
            refine hstep _ _ _ _ [3, 7] (by kernel_rfl) (by simp) (allR_cons rfl (fun K hK => ?_) (allR_cons rfl (fun K hK => ?_) allR_nil))
            · go_simp; rw [hfa] at T11111010010; exact hK _ _ T11111010010.out
            · go_simp; rw [hfa] at T11101011010; exact hK _ _ T11101011010.out
          have T11101010000 : Hid (G 6 #[true, true, true, false, true, false, true, false, false, false, false] (fa (.int .u64 (f : Int)) (.int .u64 (base : Int)) (.int .u64 (fb : Int)) s27 (.int .u64 (base : Int)) s29 (.int .u8 (d : Int)) s31 s32) W'.drew) := by
            show G _ _ _ _
            rw [hfa]; dsimp only
            refine hstep _ _ _ _ [3, 7, 9] (by kernel_rfl) (by simp) (allR_cons rfl (fun K hK => ?_) (allR_cons rfl (fun K hK => ?_) (allR_cons rfl (fun K hK => ?_) allR_nil)))
            · go_simp; rw [hfa] at T11111010000; exact hK _ _ T11111010000.out
            · go_simp; rw [hfa] at T11101011000; exact hK _ _ T11101011000.out
            · go_simp; rw [hfa] at T11101010010; exact hK _ _ T11101010010.out
          have T11101000010 : Hid (G 6 #[true, true, true, false, true, false, false, false, false, true, false] (fa (.int .u64 (f : Int)) (.int .u64 (base : Int)) (.int .u64 (fb : Int)) s27 (.int .u64 (base : Int)) s29 s30 s31 s32) ((W'.drew).setCell ⟨W.heap.size, 0, none⟩ (.int .u64 (fb : Int)))) := by
            show G _ _ _ _
            rw [hfa]; dsimp only
            refine hstep _ _ _ _ [3, 6] (by kernel_rfl) (by simp) (allR_cons rfl (fun K hK => ?_) (allR_cons rfl (fun K hK => ?_) allR_nil))
            · go_simp; rw [hfa] at T11111000010; exact hK _ _ T11111000010.out
            · go_simp; rw [hfa] at T11101010010; exact hK _ _ T11101010010.out
          have T11101000000 : Hid (G 7 #[true, true, true, false, true, false, false, false, false, false, false] (fa (.int .u64 (f : Int)) (.int .u64 (base : Int)) (.int .u64 (fb : Int)) s27 (.int .u64 (base : Int)) s29 s30 s31 s32) W'.drew) := by
            show G _ _ _ _
            rw [hfa]; dsimp only
            refine hstep _ _ _ _ [3, 6, 9] (by kernel_rfl) (by simp) (allR_cons rfl (fun K hK => ?_) (allR_cons rfl (fun K hK => ?_) (allR_cons rfl (fun K hK => ?_) allR_nil)))
            · go_simp; rw [hfa] at T11111000000; exact hK _ _ T11111000000.out
            · go_simp; rw [hfa] at T11101010000; exact hK _ _ T11101010000.out
            · go_simp; rw [hfa] at T11101000010; exact hK _ _ T11101000010.out
          have T11100011010 : Hid (G 5 #[true, true, true, false, false, false, true, true, false, true, false] (fa (.int .u64 (f : Int)) (.int .u64 (base : Int)) (.int .u64 (fb : Int)) s27 s28 s29 (.int .u8 (d : Int)) (.int .u64 (d : Int)) s32) ((W'.drew).setCell ⟨W.heap.size, 0, none⟩ (.int .u64 (fb : Int)))) := by
            show G _ _ _ _
            rw [hfa]; dsimp only
            refine hstep _ _ _ _ [3, 4] (by kernel_rfl) (by simp) (allR_cons rfl (fun K hK => ?_) (allR_cons rfl (fun K hK => ?_) allR_nil))
            · go_simp; rw [hfa] at T11110011010; exact hK _ _ T11110011010.out
            · go_simp; rw [hfa] at T11101011010; exact hK _ _ T11101011010.out
          have T11100011000 : Hid (G 6 #[true, true, true, false, false, false, true, true, false, false, false] (fa (.int .u64 (f : Int)) (.int .u64 (base : Int)) (.int .u64 (fb : Int)) s27 s28 s29 (.int .u8 (d : Int)) (.int .u64 (d : Int)) s32) W'.drew) := by
            show G _ _ _ _
            rw [hfa]; dsimp only
            refine hstep _ _ _ _ [3, 4, 9] (by kernel_rfl) (by simp) (allR_cons rfl (fun K hK => ?_) (allR_cons rfl (fun K hK => ?_) (allR_cons rfl (fun K hK => ?_) allR_nil)))
            · go_simp; rw [hfa] at T11110011000; exact hK _ _ T11110011000.out
            · go_simp; rw [hfa] at T11101011000; exact hK _ _ T11101011000.out
            · go_simp; rw [hfa] at T11100011010; exact hK _ _ T11100011010.out
          have T11100010010 : Hid (G 6 #[true, true, true, false, false, false, true, false, false, true, false] (fa (.int .u64 (f : Int)) (.int .u64 (base : Int)) (.int .u64 (fb : Int)) s27 s28 s29 (.int .u8 (d : Int)) s31 s32) ((W'.drew).setCell ⟨W.heap.size, 0, none⟩ (.int .u64 (fb : Int)))) := by
            show G _ _ _ _
            rw [hfa]; dsimp only
            refine hstep _ _ _ _ [3, 4, 7] (by kernel_rfl) (by simp) (allR_cons rfl (fun K hK => ?_) (allR_cons rfl (fun K hK => ?_) (allR_cons rfl (fun K hK => ?_) allR_nil)))
            · go_simp; rw [hfa] at T11110010010; exact hK _ _ T11110010010.out
            · go_simp; rw [hfa] at T11101010010; exact hK _ _ T11101010010.out
            · go_simp; rw [hfa] at T11100011010; exact hK _ _ T11100011010.out
          have T11100010000 : Hid (G 7 #[true, true, true, false, false, false, true, false, false, false, false] (fa (.int .u64 (f : Int)) (.int .u64 (base : Int)) (.int .u64 (fb : Int)) s27 s28 s29 (.int .u8 (d : Int)) s31 s32) W'.drew) := by
            show G _ _ _ _
            rw [hfa]; dsimp only
            refine hstep _ _ _ _ [3, 4, 7, 9] (by kernel_rfl) (by simp) (allR_cons rfl (fun K hK => ?_) (allR_cons rfl (fun K hK => ?_) (allR_cons rfl (fun K hK => ?_) (allR_cons rfl (fun K hK => ?_) allR_nil))))
            · go_simp; rw [hfa] at T11110010000; exact hK _ _ T11110010000.out
            · go_simp; rw [hfa] at T11101010000; exact hK _ _ T11101010000.out
            · go_simp; rw [hfa] at T11100011000; exact hK _ _ T11100011000.out
            · go_simp; rw [hfa] at T11100010010; exact hK _ _ T11100010010.out
          have T11100000010 : Hid (G 7 #[true, true, true, false, false, false, false, false, false, true, false] (fa (.int .u64 (f : Int)) (.int .u64 (base : Int)) (.int .u64 (fb : Int)) s27 s28 s29 s30 s31 s32) ((W'.drew).setCell ⟨W.heap.size, 0, none⟩ (.int .u64 (fb : Int)))) := by
            show G _ _ _ _
            rw [hfa]; dsimp only
            refine hstep _ _ _ _ [3, 4, 6] (by kernel_rfl) (by simp) (allR_cons rfl (fun K hK => ?_) (allR_cons rfl (fun K hK => ?_) (allR_cons rfl (fun K hK => ?_) allR_nil)))
            · go_simp; rw [hfa] at T11110000010; exact hK _ _ T11110000010.out
            · go_simp; rw [hfa] at T11101000010; exact hK _ _ T11101000010.out
            · go_simp; rw [hfa] at T11100010010; exact hK _ _ T11100010010.out
          have T11100000000 : Hid (G 8 #[true, true, true, false, false, false, false, false, false, false, false] (fa (.int .u64 (f : Int)) (.int .u64 (base : Int)) (.int .u64 (fb : Int)) s27 s28 s29 s30 s31 s32) W'.drew) := by
            show G _ _ _ _
            rw [hfa]; dsimp only
            refine hstep _ _ _ _ [3, 4, 6, 9] (by kernel_rfl) (by simp) (allR_cons rfl (fun K hK => ?_) (allR_cons rfl (fun K hK => ?_) (allR_cons rfl (fun K hK => ?_) (allR_cons rfl (fun K hK => ?_) allR_nil))))
            · go_simp; rw [hfa] at T11110000000; exact hK _ _ T11110000000.out
            · go_simp; rw [hfa] at T11101000000; exact hK _ _ T11101000000.out
            · go_simp; rw [hfa] at T11100010000; exact hK _ _ T11100010000.out
            · go_simp; rw [hfa] at T11100000010; exact hK _ _ T11100000010.out
          have T11011111100 : Hid (G 3 #[true, true, false, true, true, true, true, true, true, false, false] (fa (.int .u64 (f : Int)) (.int .u64 (base : Int)) s26 (.int .u64 (m : Int)) (.int .u64 (base : Int)) (.int .u64 (mb : Int)) (.int .u8 (d : Int)) (.int .u64 (d : Int)) (.int .u64 ((mb : Int) + (d : Int)))) W'.drew) := by
            show G _ _ _ _
            rw [hfa]; dsimp only
            refine hstep _ _ _ _ [2] (by kernel_rfl) (by simp) (allR_cons rfl (fun K hK => ?_) allR_nil)
            · go_simp; rw [hfa] at T11111111100; exact hK _ _ T11111111100.out
          have T11011111000 : Hid (G 4 #[true, true, false, true, true, true, true, true, false, false, false] (fa (.int .u64 (f : Int)) (.int .u64 (base : Int)) s26 (.int .u64 (m : Int)) (.int .u64 (base : Int)) (.int .u64 (mb : Int)) (.int .u8 (d : Int)) (.int .u64 (d : Int)) s32) W'.drew) := by
            show G _ _ _ _
            rw [hfa]; dsimp only
            refine hstep _ _ _ _ [2, 8] (by kernel_rfl) (by simp) (allR_cons rfl (fun K hK => ?_) (allR_cons rfl (fun K hK => ?_) allR_nil))
            · go_simp; rw [hfa] at T11111111000; exact hK _ _ T11111111000.out
            · go_simp; rw [hfa] at T11011111100; exact hK _ _ T11011111100.out
          have T11011110000 : Hid (G 5 #[true, true, false, true, true, true, true, false, false, false, false] (fa (.int .u64 (f : Int)) (.int .u64 (base : Int)) s26 (.int .u64 (m : Int)) (.int .u64 (base : Int)) (.int .u64 (mb : Int)) (.int .u8 (d : Int)) s31 s32) W'.drew) := by
            show G _ _ _ _
            rw [hfa]; dsimp only
            refine hstep _ _ _ _ [2, 7] (by kernel_rfl) (by simp) (allR_cons rfl (fun K hK => ?_) (allR_cons rfl (fun K hK => ?_) allR_nil))
            · go_simp; rw [hfa] at T11111110000; exact hK _ _ T11111110000.out
            · go_simp; rw [hfa] at T11011111000; exact hK _ _ T11011111000.out
          have T11011100000 : Hid (G 6 #[true, true, false, true, true, true, false, false, false, false, false] (fa (.int .u64 (f : Int)) (.int .u64 (base : Int)) s26 (.int .u64 (m : Int)) (.int .u64 (base : Int)) (.int .u64 (mb : Int)) s30 s31 s32) W'.drew) := by
            show G _ _ _ _
            rw [hfa]; dsimp only
            refine hstep _ _ _ _ [2, 6] (by kernel_rfl) (by simp) (allR_cons rfl (fun K hK => ?_) (allR_cons rfl (fun K hK => ?_) allR_nil))
            · go_simp; rw [hfa] at T11111100000; exact hK _ _ T11111100000.out
            · go_simp; rw [hfa] at T11011110000; exact hK _ _ T11011110000.out
          have T11011011000 : Hid (G 5 #[true, true, false, true, true, false, true, true, false, false, false] (fa (.int .u64 (f : Int)) (.int .u64 (base : Int)) s26 (.int .u64 (m : Int)) (.int .u64 (base : Int)) s29 (.int .u8 (d : Int)) (.int .u64 (d : Int)) s32) W'.drew) := by
            show G _ _ _ _
            rw [hfa]; dsimp only
            refine hstep _ _ _ _ [2, 5] (by kernel_rfl) (by simp) (allR_cons rfl (fun K hK => ?_) (allR_cons rfl (fun K hK => ?_) allR_nil))
            · go_simp; rw [hfa] at T11111011000; exact hK _ _ T11111011000.out
            · go_simp; rw [hfa] at T11011111000; exact hK _ _ T11011111000.out
          have T11011010000 : Hid (G 6 #[true, true, false, true, true, false, true, false, false, false, false] (fa (.int .u64 (f : Int)) (.int .u64 (base : Int)) s26 (.int .u64 (m : Int)) (.int .u64 (base : Int)) s29 (.int .u8 (d : Int)) s31 s32) W'.drew) := by
            show G _ _ _ _
            rw [hfa]; dsimp only
            refine hstep _ _ _ _ [2, 5, 7] (by kernel_rfl) (by simp) (allR_cons rfl (fun K hK => ?_) (allR_cons rfl (fun K hK => ?_) (allR_cons rfl (fun K hK => ?_) allR_nil)))
            · go_simp; rw [hfa] at T11111010000; exact hK _ _ T11111010000.out
            · go_simp; rw [hfa] at T11011110000; exact hK _ _ T11011110000.out
            · go_simp; rw [hfa] at T11011011000; exact hK _ _ T11011011000.out
          have T11011000000 : Hid (G 7 #[true, true, false, true, true, false, false, false, false, false, false] (fa (.int .u64 (f : Int)) (.int .u64 (base : Int)) s26 (.int .u64 (m : Int)) (.int .u64 (base : Int)) s29 s30 s31 s32) W'.drew) := by
            show G _ _ _ _
            rw [hfa]; dsimp only
            refine hstep _ _ _ _ [2, 5, 6] (by kernel_rfl) (by simp) (allR_cons rfl (fun K hK => ?_) (allR_cons rfl (fun K hK => ?_) (allR_cons rfl (fun K hK => ?_) allR_nil)))
            · go_simp; rw [hfa] at T11111000000; exact hK _ _ T11111000000.out
            · go_simp; rw [hfa] at T11011100000; exact hK _ _ T11011100000.out
            · go_simp; rw [hfa] at T11011010000; exact hK _ _ T11011010000.out
          have T11010011000 : Hid (G 6 #[true, true, false, true, false, false, true, true, false, false, false] (fa (.int .u64 (f : Int)) (.int .u64 (base : Int)) s26 (.int .u64 (m : Int)) s28 s29 (.int .u8 (d : Int)) (.int .u64 (d : Int)) s32) W'.drew) := by
            show G _ _ _ _
            rw [hfa]; dsimp only
            refine hstep _ _ _ _ [2, 4] (by kernel_rfl) (by simp) (allR_cons rfl (fun K hK => ?_) (allR_cons rfl (fun K hK => ?_) allR_nil))
            · go_simp; rw [hfa] at T11110011000; exact hK _ _ T11110011000.out
            · go_simp; rw [hfa] at T11011011000; exact hK _ _ T11011011000.out
          have T11010010000 : Hid (G 7 #[true, true, false, true, false, false, true, false, false, false, false] (fa (.int .u64 (f : Int)) (.int .u64 (base : Int)) s26 (.int .u64 (m : Int)) s28 s29 (.int .u8 (d : Int)) s31 s32) W'.drew) := by
            show G _ _ _ _
            rw [hfa]; dsimp only
            refine hstep _ _ _ _ [2, 4, 7] (by kernel_rfl) (by simp) (allR_cons rfl (fun K hK => ?_) (allR_cons rfl (fun K hK => ?_) (allR_cons rfl (fun K hK => ?_) allR_nil)))
            · go_simp; rw [hfa] at T11110010000; exact hK _ _ T11110010000.out
            · go_simp; rw [hfa] at T11011010000; exact hK _ _ T11011010000.out
            · go_simp; rw [hfa] at T11010011000; exact hK _ _ T11010011000.out
          have T11010000000 : Hid (G 8 #[true, true, false, true, false, false, false, false, false, false, false] (fa (.int .u64 (f : Int)) (.int .u64 (base : Int)) s26 (.int .u64 (m : Int)) s28 s29 s30 s31 s32) W'.drew) := by
            show G _ _ _ _
            rw [hfa]; dsimp only
            refine hstep _ _ _ _ [2, 4, 6] (by kernel_rfl) (by simp) (allR_cons rfl (fun K hK => ?_) (allR_cons rfl (fun K hK => ?_) (allR_cons rfl (fun K hK => ?_) allR_nil)))
            · go_simp; rw [hfa] at T11110000000; exact hK _ _ T11110000000.out
            · go_simp; rw [hfa] at T11011000000; exact hK _ _ T11011000000.out
            · go_simp; rw [hfa] at T11010010000; exact hK _ _ T11010010000.out
          have T11001011000 : Hid (G 6 #[true, true, false, false, true, false, true, true, false, false, false] (fa (.int .u64 (f : Int)) (.int .u64 (base : Int)) s26 s27 (.int .u64 (base : Int)) s29 (.int .u8 (d : Int)) (.int .u64 (d : Int)) s32) W'.drew) := by
            show G _ _ _ _
            rw [hfa]; dsimp only
            refine hstep _ _ _ _ [2, 3] (by kernel_rfl) (by simp) (allR_cons rfl (fun K hK => ?_) (allR_cons rfl (fun K hK => ?_) allR_nil))
            · go_simp; rw [hfa] at T11101011000; exact hK _ _ T11101011000.out
            · go_simp; rw [hfa] at T11011011000; exact hK _ _ T11011011000.out
          have T11001010000 : Hid (G 7 #[true, true, false, false, true, false, true, false, false, false, false] (fa (.int .u64 (f : Int)) (.int .u64 (base : Int)) s26 s27 (.int .u64 (base : Int)) s29 (.int .u8 (d : Int)) s31 s32) W'.drew) := by
            show G _ _ _ _
            rw [hfa]; dsimp only
            refine hstep _ _ _ _ [2, 3, 7] (by kernel_rfl) (by simp) (allR_cons rfl (fun K hK => ?_) (allR_cons rfl (fun K hK => ?_) (allR_cons rfl (fun K hK => ?_) allR_nil)))
            · go_simp; rw [hfa] at T11101010000; exact hK _ _ T11101010000.out
            · go_simp; rw [hfa] at T11011010000; exact hK _ _ T11011010000.out
            · go_simp; rw [hfa] at T11001011000; exact hK _ _ T11001011000.out
          have T11001000000 : Hid (G 8 #[true, true, false, false, true, false, false, false, false, false, false] (fa (.int .u64 (f : Int)) (.int .u64 (base : Int)) s26 s27 (.int .u64 (base : Int)) s29 s30 s31 s32) W'.drew) := by
            show G _ _ _ _
            rw [hfa]; dsimp only
            refine hstep _ _ _ _ [2, 3, 6] (by kernel_rfl) (by simp) (allR_cons rfl (fun K hK => ?_) (allR_cons rfl (fun K hK => ?_) (allR_cons rfl (fun K hK => ?_) allR_nil)))
            · go_simp; rw [hfa] at T11101000000; exact hK _ _ T11101000000.out
            · go_simp; rw [hfa] at T11011000000; exact hK _ _ T11011000000.out
            · go_simp; rw [hfa] at T11001010000; exact hK _ _ T11001010000.out
          have T11000011000 : Hid (G 7 #[true, true, false, false, false, false, true, true, false, false, false] (fa (.int .u64 (f : Int)) (.int .u64 (base : Int)) s26 s27 s28 s29 (.int .u8 (d : Int)) (.int .u64 (d : Int)) s32) W'.drew) := by
            show G _ _ _ _
            rw [hfa]; dsimp only
            refine hstep _ _ _ _ [2, 3, 4] (by kernel_rfl) (by simp) (allR_cons rfl (fun K hK => ?_) (allR_cons rfl (fun K hK => ?_) (allR_cons rfl (fun K hK => ?_) allR_nil)))
            · go_simp; rw [hfa] at T11100011000; exact hK _ _ T11100011000.out
            · go_simp; rw [hfa] at T11010011000; exact hK _ _ T11010011000.out
            · go_simp; rw [hfa] at T11001011000; exact hK _ _ T11001011000.out
          have T11000010000 : Hid (G 8 #[true, true, false, false, false, false, true, false, false, false, false] (fa (.int .u64 (f : Int)) (.int .u64 (base : Int)) s26 s27 s28 s29 (.int .u8 (d : Int)) s31 s32) W'.drew) := by
            show G _ _ _ _
            rw [hfa]; dsimp only
            refine hstep _ _ _ _ [2, 3, 4, 7] (by kernel_rfl) (by simp) (allR_cons rfl (fun K hK => ?_) (allR_cons rfl (fun K hK => ?_) (allR_cons rfl (fun K hK => ?_) (allR_cons rfl (fun K hK => ?_) allR_nil))))
            · go_simp; rw [hfa] at T11100010000; exact hK _ _ T11100010000.out
            · go_simp; rw [hfa] at T11010010000; exact hK _ _ T11010010000.out
            · go_simp; rw [hfa] at T11001010000; exact hK _ _ T11001010000.out
            · go_simp; rw [hfa] at T11000011000; exact hK _ _ T11000011000.out
          have T11000000000 : Hid (G 9 #[true, true, false, false, false, false, false, false, false, false, false] (fa (.int .u64 (f : Int)) (.int .u64 (base : Int)) s26 s27 s28 s29 s30 s31 s32) W'.drew) := by
            show G _ _ _ _
            rw [hfa]; dsimp only
            refine hstep _ _ _ _ [2, 3, 4, 6] (by kernel_rfl) (by simp) (allR_cons rfl (fun K hK => ?_) (allR_cons rfl (fun K hK => ?_) (allR_cons rfl (fun K hK => ?_) (allR_cons rfl (fun K hK => ?_) allR_nil))))
            · go_simp; rw [hfa] at T11100000000; exact hK _ _ T11100000000.out
            · go_simp; rw [hfa] at T11010000000; exact hK _ _ T11010000000.out
            · go_simp; rw [hfa] at T11001000000; exact hK _ _ T11001000000.out
            · go_simp; rw [hfa] at T11000010000; exact hK _ _ T11000010000.out
          have T10011111100 : Hid (G 4 #[true, false, false, true, true, true, true, true, true, false, false] (fa (.int .u64 (f : Int)) s25 s26 (.int .u64 (m : Int)) (.int .u64 (base : Int)) (.int .u64 (mb : Int)) (.int .u8 (d : Int)) (.int .u64 (d : Int)) (.int .u64 ((mb : Int) + (d : Int)))) W'.drew) := by
            show G _ _ _ _
            rw [hfa]; dsimp only
            refine hstep _ _ _ _ [1] (by kernel_rfl) (by simp) (allR_cons rfl (fun K hK => ?_) allR_nil)
            · go_simp; rw [hfa] at T11011111100; exact hK _ _ T11011111100.out
          have T10011111000 : Hid (G 5 #[true, false, false, true, true, true, true, true, false, false, false] (fa (.int .u64 (f : Int)) s25 s26 (.int .u64 (m : Int)) (.int .u64 (base : Int)) (.int .u64 (mb : Int)) (.int .u8 (d : Int)) (.int .u64 (d : Int)) s32) W'.drew) := by
            show G _ _ _ _
            rw [hfa]; dsimp only
            refine hstep _ _ _ _ [1, 8] (by kernel_rfl) (by simp) (allR_cons rfl (fun K hK => ?_) (allR_cons rfl (fun K hK => ?_) allR_nil))
            · go_simp; rw [hfa] at T11011111000; exact hK _ _ T11011111000.out
            · go_simp; rw [hfa] at T10011111100; exact hK _ _ T10011111100.out
          have T10011110000 : Hid (G 6 #[true, false, false, true, true, true, true, false, false, false, false] (fa (.int .u64 (f : Int)) s25 s26 (.int .u64 (m : Int)) (.int .u64 (base : Int)) (.int .u64 (mb : Int)) (.int .u8 (d : Int)) s31 s32) W'.drew) := by
            show G _ _ _ _
            rw [hfa]; dsimp only
            refine hstep _ _ _ _ [1, 7] (by kernel_rfl) (by simp) (allR_cons rfl (fun K hK => ?_) (allR_cons rfl (fun K hK => ?_) allR_nil))
            · go_simp; rw [hfa] at T11011110000; exact hK _ _ T11011110000.out
            · go_simp; rw [hfa] at T10011111000; exact hK _ _ T10011111000.out
          have T10011100000 : Hid (G 7 #[true, false, false, true, true, true, false, false, false, false, false] (fa (.int .u64 (f : Int)) s25 s26 (.int .u64 (m : Int)) (.int .u64 (base : Int)) (.int .u64 (mb : Int)) s30 s31 s32) W'.drew) := by
            show G _ _ _ _
            rw [hfa]; dsimp only
            refine hstep _ _ _ _ [1, 6] (by kernel_rfl) (by simp) (allR_cons rfl (fun K hK => ?_) (allR_cons rfl (fun K hK => ?_) allR_nil))
            · go_simp; rw [hfa] at T11011100000; exact hK _ _ T11011100000.out
            · go_simp; rw [hfa] at T10011110000; exact hK _ _ T10011110000.out
          have T10011011000 : Hid (G 6 #[true, false, false, true, true, false, true, true, false, false, false] (fa (.int .u64 (f : Int)) s25 s26 (.int .u64 (m : Int)) (.int .u64 (base : Int)) s29 (.int .u8 (d : Int)) (.int .u64 (d : Int)) s32) W'.drew) := by
            show G _ _ _ _
            rw [hfa]; dsimp only
            refine hstep _ _ _ _ [1, 5] (by kernel_rfl) (by simp) (allR_cons rfl (fun K hK => ?_) (allR_cons rfl (fun K hK => ?_) allR_nil))
            · go_simp; rw [hfa] at T11011011000; exact hK _ _ T11011011000.out
            · go_simp; rw [hfa] at T10011111000; exact hK _ _ T10011111000.out
          have T10011010000 : Hid (G 7 #[true, false, false, true, true, false, true, false, false, false, false] (fa (.int .u64 (f : Int)) s25 s26 (.int .u64 (m : Int)) (.int .u64 (base : Int)) s29 (.int .u8 (d : Int)) s31 s32) W'.drew) := by
            show G _ _ _ _
            rw [hfa]; dsimp only
            refine hstep _ _ _ _ [1, 5, 7] (by kernel_rfl) (by simp) (allR_cons rfl (fun K hK => ?_) (allR_cons rfl (fun K hK => ?_) (allR_cons rfl (fun K hK => ?_) allR_nil)))
            · go_simp; rw [hfa] at T11011010000; exact hK _ _ T11011010000.out
            · go_simp; rw [hfa] at T10011110000; exact hK _ _ T10011110000.out
            · go_simp; rw [hfa] at T10011011000; exact hK _ _ T10011011000.out
          have T10011000000 : Hid (G 8 #[true, false, false, true, true, false, false, false, false, false, false] (fa (.int .u64 (f : Int)) s25 s26 (.int .u64 (m : Int)) (.int .u64 (base : Int)) s29 s30 s31 s32) W'.drew) := by
            show G _ _ _ _
            rw [hfa]; dsimp only
            refine hstep _ _ _ _ [1, 5, 6] (by kernel_rfl) (by simp) (allR_cons rfl (fun K hK => ?_) (allR_cons rfl (fun K hK => ?_) (allR_cons rfl (fun K hK => ?_) allR_nil)))
            · go_simp; rw [hfa] at T11011000000; exact hK _ _ T11011000000.out
            · go_simp; rw [hfa] at T10011100000; exact hK _ _ T10011100000.out
            · go_simp; rw [hfa] at T10011010000; exact hK _ _ T10011010000.out
          have T10010011000 : Hid (G 7 #[true, false, false, true, false, false, true, true, false, false, false] (fa (.int .u64 (f : Int)) s25 s26 (.int .u64 (m : Int)) s28 s29 (.int .u8 (d : Int)) (.int .u64 (d : Int)) s32) W'.drew) := by
            show G _ _ _ _
            rw [hfa]; dsimp only
            refine hstep _ _ _ _ [1, 4] (by kernel_rfl) (by simp) (allR_cons rfl (fun K hK => ?_) (allR_cons rfl (fun K hK => ?_) allR_nil))
            · go_simp; rw [hfa] at T11010011000; exact hK _ _ T11010011000.out
            · go_simp; rw [hfa] at T10011011000; exact hK _ _ T10011011000.out
          have T10010010000 : Hid (G 8 #[true, false, false, true, false, false, true, false, false, false, false] (fa (.int .u64 (f : Int)) s25 s26 (.int .u64 (m : Int)) s28 s29 (.int .u8 (d : Int)) s31 s32) W'.drew) := by
            show G _ _ _ _
            rw [hfa]; dsimp only
            refine hstep _ _ _ _ [1, 4, 7] (by kernel_rfl) (by simp) (allR_cons rfl (fun K hK => ?_) (allR_cons rfl (fun K hK => ?_) (allR_cons rfl (fun K hK => ?_) allR_nil)))
            · go_simp; rw [hfa] at T11010010000; exact hK _ _ T11010010000.out
            · go_simp; rw [hfa] at T10011010000; exact hK _ _ T10011010000.out
            · go_simp; rw [hfa] at T10010011000; exact hK _ _ T10010011000.out
          have T10010000000 : Hid (G 9 #[true, false, false, true, false, false, false, false, false, false, false] (fa (.int .u64 (f : Int)) s25 s26 (.int .u64 (m : Int)) s28 s29 s30 s31 s32) W'.drew) := by
            show G _ _ _ _
            rw [hfa]; dsimp only
            refine hstep _ _ _ _ [1, 4, 6] (by kernel_rfl) (by simp) (allR_cons rfl (fun K hK => ?_) (allR_cons rfl (fun K hK => ?_) (allR_cons rfl (fun K hK => ?_) allR_nil)))
            · go_simp; rw [hfa] at T11010000000; exact hK _ _ T11010000000.out
            · go_simp; rw [hfa] at T10011000000; exact hK _ _ T10011000000.out
            · go_simp; rw [hfa] at T10010010000; exact hK _ _ T10010010000.out
          have T10001011000 : Hid (G 7 #[true, false, false, false, true, false, true, true, false, false, false] (fa (.int .u64 (f : Int)) s25 s26 s27 (.int .u64 (base : Int)) s29 (.int .u8 (d : Int)) (.int .u64 (d : Int)) s32) W'.drew) := by
            show G _ _ _ _
            rw [hfa]; dsimp only
            refine hstep _ _ _ _ [1, 3] (by kernel_rfl) (by simp) (allR_cons rfl (fun K hK => ?_) (allR_cons rfl (fun K hK => ?_) allR_nil))
            · go_simp; rw [hfa] at T11001011000; exact hK _ _ T11001011000.out
            · go_simp; rw [hfa] at T10011011000; exact hK _ _ T10011011000.out
          have T10001010000 : Hid (G 8 #[true, false, false, false, true, false, true, false, false, false, false] (fa (.int .u64 (f : Int)) s25 s26 s27 (.int .u64 (base : Int)) s29 (.int .u8 (d : Int)) s31 s32) W'.drew) := by
            show G _ _ _ _
            rw [hfa]; dsimp only
            refine hstep _ _ _ _ [1, 3, 7] (by kernel_rfl) (by simp) (allR_cons rfl (fun K hK => ?_) (allR_cons rfl (fun K hK => ?_) (allR_cons rfl (fun K hK => ?_) allR_nil)))
            · go_simp; rw [hfa] at T11001010000; exact hK _ _ T11001010000.out
            · go_simp; rw [hfa] at T10011010000; exact hK _ _ T10011010000.out
            · go_simp; rw [hfa] at T10001011000; exact hK _ _ T10001011000.out
          have T10001000000 : Hid (G 9 #[true, false, false, false, true, false, false, false, false, false, false] (fa (.int .u64 (f : Int)) s25 s26 s27 (.int .u64 (base : Int)) s29 s30 s31 s32) W'.drew) := by
            show G _ _ _ _
            rw [hfa]; dsimp only
            refine hstep _ _ _ _ [1, 3, 6] (by kernel_rfl) (by simp) (allR_cons rfl (fun K hK => ?_) (allR_cons rfl (fun K hK => ?_) (allR_cons rfl (fun K hK => ?_) allR_nil)))
            · go_simp; rw [hfa] at T11001000000; exact hK _ _ T11001000000.out
            · go_simp; rw [hfa] at T10011000000; exact hK _ _ T10011000000.out
            · go_simp; rw [hfa] at T10001010000; exact hK _ _ T10001010000.out
          have T10000011000 : Hid (G 8 #[true, false, false, false, false, false, true, true, false, false, false] (fa (.int .u64 (f : Int)) s25 s26 s27 s28 s29 (.int .u8 (d : Int)) (.int .u64 (d : Int)) s32) W'.drew) := by
            show G _ _ _ _
            rw [hfa]; dsimp only
            refine hstep _ _ _ _ [1, 3, 4] (by kernel_rfl) (by simp) (allR_cons rfl (fun K hK => ?_) (allR_cons rfl (fun K hK => ?_) (allR_cons rfl (fun K hK => ?_) allR_nil)))
            · go_simp; rw [hfa] at T11000011000; exact hK _ _ T11000011000.out
            · go_simp; rw [hfa] at T10010011000; exact hK _ _ T10010011000.out
            · go_simp; rw [hfa] at T10001011000; exact hK _ _ T10001011000.out
          have T10000010000 : Hid (G 9 #[true, false, false, false, false, false, true, false, false, false, false] (fa (.int .u64 (f : Int)) s25 s26 s27 s28 s29 (.int .u8 (d : Int)) s31 s32) W'.drew) := by
            show G _ _ _ _
            rw [hfa]; dsimp only
            refine hstep _ _ _ _ [1, 3, 4, 7] (by kernel_rfl) (by simp) (allR_cons rfl (fun K hK => ?_) (allR_cons rfl (fun K hK => ?_) (allR_cons rfl (fun K hK => ?_) (allR_cons rfl (fun K hK => ?_) allR_nil))))
            · go_simp; rw [hfa] at T11000010000; exact hK _ _ T11000010000.out
            · go_simp; rw [hfa] at T10010010000; exact hK _ _ T10010010000.out
            · go_simp; rw [hfa] at T10001010000; exact hK _ _ T10001010000.out
            · go_simp; rw [hfa] at T10000011000; exact hK _ _ T10000011000.out
          have T10000000000 : Hid (G 10 #[true, false, false, false, false, false, false, false, false, false, false] (fa (.int .u64 (f : Int)) s25 s26 s27 s28 s29 s30 s31 s32) W'.drew) := by
            show G _ _ _ _
            rw [hfa]; dsimp only
            refine hstep _ _ _ _ [1, 3, 4, 6] (by kernel_rfl) (by simp) (allR_cons rfl (fun K hK => ?_) (allR_cons rfl (fun K hK => ?_) (allR_cons rfl (fun K hK => ?_) (allR_cons rfl (fun K hK => ?_) allR_nil))))
            · go_simp; rw [hfa] at T11000000000; exact hK _ _ T11000000000.out
            · go_simp; rw [hfa] at T10010000000; exact hK _ _ T10010000000.out
            · go_simp; rw [hfa] at T10001000000; exact hK _ _ T10001000000.out
            · go_simp; rw [hfa] at T10000010000; exact hK _ _ T10000010000.out
          have T01011111100 : Hid (G 4 #[false, true, false, true, true, true, true, true, true, false, false] (fa s24 (.int .u64 (base : Int)) s26 (.int .u64 (m : Int)) (.int .u64 (base : Int)) (.int .u64 (mb : Int)) (.int .u8 (d : Int)) (.int .u64 (d : Int)) (.int .u64 ((mb : Int) + (d : Int)))) W'.drew) := by
            show G _ _ _ _
            rw [hfa]; dsimp only
            refine hstep _ _ _ _ [0] (by kernel_rfl) (by simp) (allR_cons rfl (fun K hK => ?_) allR_nil)
            · go_simp; rw [hfa] at T11011111100; exact hK _ _ T11011111100.out
          have T01011111000 : Hid (G 5 #[false, true, false, true, true, true, true, true, false, false, false] (fa s24 (.int .u64 (base : Int)) s26 (.int .u64 (m : Int)) (.int .u64 (base : Int)) (.int .u64 (mb : Int)) (.int .u8 (d : Int)) (.int .u64 (d : Int)) s32) W'.drew) := by
            show G _ _ _ _
            rw [hfa]; dsimp only
            refine hstep _ _ _ _ [0, 8] (by kernel_rfl) (by simp) (allR_cons rfl (fun K hK => ?_) (allR_cons rfl (fun K hK => ?_) allR_nil))
            · go_simp; rw [hfa] at T11011111000; exact hK _ _ T11011111000.out
            · go_simp; rw [hfa] at T01011111100; exact hK _ _ T01011111100.out
          have T01011110000 : Hid (G 6 #[false, true, false, true, true, true, true, false, false, false, false] (fa s24 (.int .u64 (base : Int)) s26 (.int .u64 (m : Int)) (.int .u64 (base : Int)) (.int .u64 (mb : Int)) (.int .u8 (d : Int)) s31 s32) W'.drew) := by
            show G _ _ _ _
            rw [hfa]; dsimp only
            refine hstep _ _ _ _ [0, 7] (by kernel_rfl) (by simp) (allR_cons rfl (fun K hK => ?_) (allR_cons rfl (fun K hK => ?_) allR_nil))
            · go_simp; rw [hfa] at T11011110000; exact hK _ _ T11011110000.out
            · go_simp; rw [hfa] at T01011111000; exact hK _ _ T01011111000.out
          have T01011100000 : Hid (G 7 #[false, true, false, true, true, true, false, false, false, false, false] (fa s24 (.int .u64 (base : Int)) s26 (.int .u64 (m : Int)) (.int .u64 (base : Int)) (.int .u64 (mb : Int)) s30 s31 s32) W'.drew) := by
            show G _ _ _ _
            rw [hfa]; dsimp only
            refine hstep _ _ _ _ [0, 6] (by kernel_rfl) (by simp) (allR_cons rfl (fun K hK => ?_) (allR_cons rfl (fun K hK => ?_) allR_nil))
            · go_simp; rw [hfa] at T11011100000; exact hK _ _ T11011100000.out
            · go_simp; rw [hfa] at T01011110000; exact hK _ _ T01011110000.out
          have T01011011000 : Hid (G 6 #[false, true, false, true, true, false, true, true, false, false, false] (fa s24 (.int .u64 (base : Int)) s26 (.int .u64 (m : Int)) (.int .u64 (base : Int)) s29 (.int .u8 (d : Int)) (.int .u64 (d : Int)) s32) W'.drew) := by
            show G _ _ _ _
            rw [hfa]; dsimp only
            refine hstep _ _ _ _ [0, 5] (by kernel_rfl) (by simp) (allR_cons rfl (fun K hK => ?_) (allR_cons rfl (fun K hK => ?_) allR_nil))
            · go_simp; rw [hfa] at T11011011000; exact hK _ _ T11011011000.out
            · go_simp; rw [hfa] at T01011111000; exact hK _ _ T01011111000.out
          have T01011010000 : Hid (G 7 #[false, true, false, true, true, false, true, false, false, false, false] (fa s24 (.int .u64 (base : Int)) s26 (.int .u64 (m : Int)) (.int .u64 (base : Int)) s29 (.int .u8 (d : Int)) s31 s32) W'.drew) := by
            show G _ _ _ _
            rw [hfa]; dsimp only
            refine hstep _ _ _ _ [0, 5, 7] (by kernel_rfl) (by simp) (allR_cons rfl (fun K hK => ?_) (allR_cons rfl (fun K hK => ?_) (allR_cons rfl (fun K hK => ?_) allR_nil)))
            · go_simp; rw [hfa] at T11011010000; exact hK _ _ T11011010000.out
            · go_simp; rw [hfa] at T01011110000; exact hK _ _ T01011110000.out
            · go_simp; rw [hfa] at T01011011000; exact hK _ _ T01011011000.out
          have T01011000000 : Hid (G 8 #[false, true, false, true, true, false, false, false, false, false, false] (fa s24 (.int .u64 (base : Int)) s26 (.int .u64 (m : Int)) (.int .u64 (base : Int)) s29 s30 s31 s32) W'.drew) := by
            show G _ _ _ _
            rw [hfa]; dsimp only
            refine hstep _ _ _ _ [0, 5, 6] (by kernel_rfl) (by simp) (allR_cons rfl (fun K hK => ?_) (allR_cons rfl (fun K hK => ?_) (allR_cons rfl (fun K hK => ?_) allR_nil)))
            · go_simp; rw [hfa] at T11011000000; exact hK _ _ T11011000000.out
            · go_simp; rw [hfa] at T01011100000; exact hK _ _ T01011100000.out
            · go_simp; rw [hfa] at T01011010000; exact hK _ _ T01011010000.out
          have T01010011000 : Hid (G 7 #[false, true, false, true, false, false, true, true, false, false, false] (fa s24 (.int .u64 (base : Int)) s26 (.int .u64 (m : Int)) s28 s29 (.int .u8 (d : Int)) (.int .u64 (d : Int)) s32) W'.drew) := by
            show G _ _ _ _
            rw [hfa]; dsimp only
            refine hstep _ _ _ _ [0, 4] (by kernel_rfl) (by simp) (allR_cons rfl (fun K hK => ?_) (allR_cons rfl (fun K hK => ?_) allR_nil))
            · go_simp; rw [hfa] at T11010011000; exact hK _ _ T11010011000.out
            · go_simp; rw [hfa] at T01011011000; exact hK _ _ T01011011000.out
          have T01010010000 : Hid (G 8 #[false, true, false, true, false, false, true, false, false, false, false] (fa s24 (.int .u64 (base : Int)) s26 (.int .u64 (m : Int)) s28 s29 (.int .u8 (d : Int)) s31 s32) W'.drew) := by
            show G _ _ _ _
            rw [hfa]; dsimp only
            refine hstep _ _ _ _ [0, 4, 7] (by kernel_rfl) (by simp) (allR_cons rfl (fun K hK => ?_) (allR_cons rfl (fun K hK => ?_) (allR_cons rfl (fun K hK => ?_) allR_nil)))
            · go_simp; rw [hfa] at T11010010000; exact hK _ _ T11010010000.out
            · go_simp; rw [hfa] at T01011010000; exact hK _ _ T01011010000.out
            · go_simp; rw [hfa] at T01010011000; exact hK _ _ T01010011000.out
          have T01010000000 : Hid (G 9 #[false, true, false, true, false, false, false, false, false, false, false] (fa s24 (.int .u64 (base : Int)) s26 (.int .u64 (m : Int)) s28 s29 s30 s31 s32) W'.drew) := by
            show G _ _ _ _
            rw [hfa]; dsimp only
            refine hstep _ _ _ _ [0, 4, 6] (by kernel_rfl) (by simp) (allR_cons rfl (fun K hK => ?_) (allR_cons rfl (fun K hK => ?_) (allR_cons rfl (fun K hK => ?_) allR_nil)))
            · go_simp; rw [hfa] at T11010000000; exact hK _ _ T11010000000.out
            · go_simp; rw [hfa] at T01011000000; exact hK _ _ T01011000000.out
            · go_simp; rw [hfa] at T01010010000; exact hK _ _ T01010010000.out
          have T01001011000 : Hid (G 7 #[false, true, false, false, true, false, true, true, false, false, false] (fa s24 (.int .u64 (base : Int)) s26 s27 (.int .u64 (base : Int)) s29 (.int .u8 (d : Int)) (.int .u64 (d : Int)) s32) W'.drew) := by
            show G _ _ _ _
            rw [hfa]; dsimp only
            refine hstep _ _ _ _ [0, 3] (by kernel_rfl) (by simp) (allR_cons rfl (fun K hK => ?_) (allR_cons rfl (fun K hK => ?_) allR_nil))
            · go_simp; rw [hfa] at T11001011000; exact hK _ _ T11001011000.out
            · go_simp; rw [hfa] at T01011011000; exact hK _ _ T01011011000.out
          have T01001010000 : Hid (G 8 #[false, true, false, false, true, false, true, false, false, false, false] (fa s24 (.int .u64 (base : Int)) s26 s27 (.int .u64 (base : Int)) s29 (.int .u8 (d : Int)) s31 s32) W'.drew) := by
            show G _ _ _ _
            rw [hfa]; dsimp only
            refine hstep _ _ _ _ [0, 3, 7] (by kernel_rfl) (by simp) (allR_cons rfl (fun K hK => ?_) (allR_cons rfl (fun K hK => ?_) (allR_cons rfl (fun K hK => ?_) allR_nil)))
            · go_simp; rw [hfa] at T11001010000; exact hK _ _ T11001010000.out
            · go_simp; rw [hfa] at T01011010000; exact hK _ _ T01011010000.out
            · go_simp; rw [hfa] at T01001011000; exact hK _ _ T01001011000.out
          have T01001000000 : Hid (G 9 #[false, true, false, false, true, false, false, false, false, false, false] (fa s24 (.int .u64 (base : Int)) s26 s27 (.int .u64 (base : Int)) s29 s30 s31 s32) W'.drew) := by
            show G _ _ _ _
            rw [hfa]; dsimp only
            refine hstep _ _ _ _ [0, 3, 6] (by kernel_rfl) (by simp) (allR_cons rfl (fun K hK => ?_) (allR_cons rfl (fun K hK => ?_) (allR_cons rfl (fun K hK => ?_) allR_nil)))
            · go_simp; rw [hfa] at T11001000000; exact hK _ _ T11001000000.out
            · go_simp; rw [hfa] at T01011000000; exact hK _ _ T01011000000.out
            · go_simp; rw [hfa] at T01001010000; exact hK _ _ T01001010000.out
          have T01000011000 : Hid (G 8 #[false, true, false, false, false, false, true, true, false, false, false] (fa s24 (.int .u64 (base : Int)) s26 s27 s28 s29 (.int .u8 (d : Int)) (.int .u64 (d : Int)) s32) W'.drew) := by
            show G _ _ _ _
            rw [hfa]; dsimp only
            refine hstep _ _ _ _ [0, 3, 4] (by kernel_rfl) (by simp) (allR_cons rfl (fun K hK => ?_) (allR_cons rfl (fun K hK => ?_) (allR_cons rfl (fun K hK => ?_) allR_nil)))
            · go_simp; rw [hfa] at T11000011000; exact hK _ _ T11000011000.out
            · go_simp; rw [hfa] at T01010011000; exact hK _ _ T01010011000.out
            · go_simp; rw [hfa] at T01001011000; exact hK _ _ T01001011000.out
          have T01000010000 : Hid (G 9 #[false, true, false, false, false, false, true, false, false, false, false] (fa s24 (.int .u64 (base : Int)) s26 s27 s28 s29 (.int .u8 (d : Int)) s31 s32) W'.drew) := by
            show G _ _ _ _
            rw [hfa]; dsimp only
            refine hstep _ _ _ _ [0, 3, 4, 7] (by kernel_rfl) (by simp) (allR_cons rfl (fun K hK => ?_) (allR_cons rfl (fun K hK => ?_) (allR_cons rfl (fun K hK => ?_) (allR_cons rfl (fun K hK => ?_) allR_nil))))
            · go_simp; rw [hfa] at T11000010000; exact hK _ _ T11000010000.out
            · go_simp; rw [hfa] at T01010010000; exact hK _ _ T01010010000.out
            · go_simp; rw [hfa] at T01001010000; exact hK _ _ T01001010000.out
            · go_simp; rw [hfa] at T01000011000; exact hK _ _ T01000011000.out
          have T01000000000 : Hid (G 10 #[false, true, false, false, false, false, false, false, false, false, false] (fa s24 (.int .u64 (base : Int)) s26 s27 s28 s29 s30 s31 s32) W'.drew) := by
            show G _ _ _ _
            rw [hfa]; dsimp only
            refine hstep _ _ _ _ [0, 3, 4, 6] (by kernel_rfl) (by simp) (allR_cons rfl (fun K hK => ?_) (allR_cons rfl (fun K hK => ?_) (allR_cons rfl (fun K hK => ?_) (allR_cons rfl (fun K hK => ?_) allR_nil))))
            · go_simp; rw [hfa] at T11000000000; exact hK _ _ T11000000000.out
            · go_simp; rw [hfa] at T01010000000; exact hK _ _ T01010000000.out
            · go_simp; rw [hfa] at T01001000000; exact hK _ _ T01001000000.out
            · go_simp; rw [hfa] at T01000010000; exact hK _ _ T01000010000.out
          have T00011111100 : Hid (G 5 #[false, false, false, true, true, true, true, true, true, false, false] (fa s24 s25 s26 (.int .u64 (m : Int)) (.int .u64 (base : Int)) (.int .u64 (mb : Int)) (.int .u8 (d : Int)) (.int .u64 (d : Int)) (.int .u64 ((mb : Int) + (d : Int)))) W'.drew) := by
            show G _ _ _ _
            rw [hfa]; dsimp only
            refine hstep _ _ _ _ [0, 1] (by kernel_rfl) (by simp) (allR_cons rfl (fun K hK => ?_) (allR_cons rfl (fun K hK => ?_) allR_nil))
            · go_simp; rw [hfa] at T10011111100; exact hK _ _ T10011111100.out
            · go_simp; rw [hfa] at T01011111100; exact hK _ _ T01011111100.out
          have T00011111000 : Hid (G 6 #[false, false, false, true, true, true, true, true, false, false, false] (fa s24 s25 s26 (.int .u64 (m : Int)) (.int .u64 (base : Int)) (.int .u64 (mb : Int)) (.int .u8 (d : Int)) (.int .u64 (d : Int)) s32) W'.drew) := by
            show G _ _ _ _
            rw [hfa]; dsimp only
            refine hstep _ _ _ _ [0, 1, 8] (by kernel_rfl) (by simp) (allR_cons rfl (fun K hK => ?_) (allR_cons rfl (fun K hK => ?_) (allR_cons rfl (fun K hK => ?_) allR_nil)))
            · go_simp; rw [hfa] at T10011111000; exact hK _ _ T10011111000.out
            · go_simp; rw [hfa] at T01011111000; exact hK _ _ T01011111000.out
            · go_simp; rw [hfa] at T00011111100; exact hK _ _ T00011111100.out
          have T00011110000 : Hid (G 7 #[false, false, false, true, true, true, true, false, false, false, false] (fa s24 s25 s26 (.int .u64 (m : Int)) (.int .u64 (base : Int)) (.int .u64 (mb : Int)) (.int .u8 (d : Int)) s31 s32) W'.drew) := by
            show G _ _ _ _
            rw [hfa]; dsimp only
            refine hstep _ _ _ _ [0, 1, 7] (by kernel_rfl) (by simp) (allR_cons rfl (fun K hK => ?_) (allR_cons rfl (fun K hK => ?_) (allR_cons rfl (fun K hK => ?_) allR_nil)))
            · go_simp; rw [hfa] at T10011110000; exact hK _ _ T10011110000.out
            · go_simp; rw [hfa] at T01011110000; exact hK _ _ T01011110000.out
            · go_simp; rw [hfa] at T00011111000; exact hK _ _ T00011111000.out
          have T00011100000 : Hid (G 8 #[false, false, false, true, true, true, false, false, false, false, false] (fa s24 s25 s26 (.int .u64 (m : Int)) (.int .u64 (base : Int)) (.int .u64 (mb : Int)) s30 s31 s32) W'.drew) := by
            show G _ _ _ _
            rw [hfa]; dsimp only
            refine hstep _ _ _ _ [0, 1, 6] (by kernel_rfl) (by simp) (allR_cons rfl (fun K hK => ?_) (allR_cons rfl (fun K hK => ?_) (allR_cons rfl (fun K hK => ?_) allR_nil)))
            · go_simp; rw [hfa] at T10011100000; exact hK _ _ T10011100000.out
            · go_simp; rw [hfa] at T01011100000; exact hK _ _ T01011100000.out
            · go_simp; rw [hfa] at T00011110000; exact hK _ _ T00011110000.out
          have T00011011000 : Hid (G 7 #[false, false, false, true, true, false, true, true, false, false, false] (fa s24 s25 s26 (.int .u64 (m : Int)) (.int .u64 (base : Int)) s29 (.int .u8 (d : Int)) (.int .u64 (d : Int)) s32) W'.drew) := by
            show G _ _ _ _
            rw [hfa]; dsimp only
            refine hstep _ _ _ _ [0, 1, 5] (by kernel_rfl) (by simp) (allR_cons rfl (fun K hK => ?_) (allR_cons rfl (fun K hK => ?_) (allR_cons rfl (fun K hK => ?_) allR_nil)))
            · go_simp; rw [hfa] at T10011011000; exact hK _ _ T10011011000.out
            · go_simp; rw [hfa] at T01011011000; exact hK _ _ T01011011000.out
            · go_simp; rw [hfa] at T00011111000; exact hK _ _ T00011111000.out
          have T00011010000 : Hid (G 8 #[false, false, false, true, true, false, true, false, false, false, false] (fa s24 s25 s26 (.int .u64 (m : Int)) (.int .u64 (base : Int)) s29 (.int .u8 (d : Int)) s31 s32) W'.drew) := by
            show G _ _ _ _
            rw [hfa]; dsimp only
            refine hstep _ _ _ _ [0, 1, 5, 7] (by kernel_rfl) (by simp) (allR_cons rfl (fun K hK => ?_) (allR_cons rfl (fun K hK => ?_) (allR_cons rfl (fun K hK => ?_) (allR_cons rfl (fun K hK => ?_) allR_nil))))
            · go_simp; rw [hfa] at T10011010000; exact hK _ _ T10011010000.out
            · go_simp; rw [hfa] at T01011010000; exact hK _ _ T01011010000.out
            · go_simp; rw [hfa] at T00011110000; exact hK _ _ T00011110000.out
            · go_simp; rw [hfa] at T00011011000; exact hK _ _ T00011011000.out
          have T00011000000 : Hid (G 9 #[false, false, false, true, true, false, false, false, false, false, false] (fa s24 s25 s26 (.int .u64 (m : Int)) (.int .u64 (base : Int)) s29 s30 s31 s32) W'.drew) := by
            show G _ _ _ _
            rw [hfa]; dsimp only
            refine hstep _ _ _ _ [0, 1, 5, 6] (by kernel_rfl) (by simp) (allR_cons rfl (fun K hK => ?_) (allR_cons rfl (fun K hK => ?_) (allR_cons rfl (fun K hK => ?_) (allR_cons rfl (fun K hK => ?_) allR_nil))))
            · go_simp; rw [hfa] at T10011000000; exact hK _ _ T10011000000.out
            · go_simp; rw [hfa] at T01011000000; exact hK _ _ T01011000000.out
            · go_simp; rw [hfa] at T00011100000; exact hK _ _ T00011100000.out
            · go_simp; rw [hfa] at T00011010000; exact hK _ _ T00011010000.out
          have T00010011000 : Hid (G 8 #[false, false, false, true, false, false, true, true, false, false, false] (fa s24 s25 s26 (.int .u64 (m : Int)) s28 s29 (.int .u8 (d : Int)) (.int .u64 (d : Int)) s32) W'.drew) := by
            show G _ _ _ _
            rw [hfa]; dsimp only
            refine hstep _ _ _ _ [0, 1, 4] (by kernel_rfl) (by simp) (allR_cons rfl (fun K hK => ?_) (allR_cons rfl (fun K hK => ?_) (allR_cons rfl (fun K hK => ?_) allR_nil)))
            · go_simp; rw [hfa] at T10010011000; exact hK _ _ T10010011000.out
            · go_simp; rw [hfa] at T01010011000; exact hK _ _ T01010011000.out
            · go_simp; rw [hfa] at T00011011000; exact hK _ _ T00011011000.out
          have T00010010000 : Hid (G 9 #[false, false, false, true, false, false, true, false, false, false, false] (fa s24 s25 s26 (.int .u64 (m : Int)) s28 s29 (.int .u8 (d : Int)) s31 s32) W'.drew) := by
            show G _ _ _ _
            rw [hfa]; dsimp only
            refine hstep _ _ _ _ [0, 1, 4, 7] (by kernel_rfl) (by simp) (allR_cons rfl (fun K hK => ?_) (allR_cons rfl (fun K hK => ?_) (allR_cons rfl (fun K hK => ?_) (allR_cons rfl (fun K hK => ?_) allR_nil))))
            · go_simp; rw [hfa] at T10010010000; exact hK _ _ T10010010000.out
            · go_simp; rw [hfa] at T01010010000; exact hK _ _ T01010010000.out
            · go_simp; rw [hfa] at T00011010000; exact hK _ _ T00011010000.out
            · go_simp; rw [hfa] at T00010011000; exact hK _ _ T00010011000.out
          have T00010000000 : Hid (G 10 #[false, false, false, true, false, false, false, false, false, false, false] (fa s24 s25 s26 (.int .u64 (m : Int)) s28 s29 s30 s31 s32) W'.drew) := by
            show G _ _ _ _
            rw [hfa]; dsimp only
            refine hstep _ _ _ _ [0, 1, 4, 6] (by kernel_rfl) (by simp) (allR_cons rfl (fun K hK => ?_) (allR_cons rfl (fun K hK => ?_) (allR_cons rfl (fun K hK => ?_) (allR_cons rfl (fun K hK => ?_) allR_nil))))
            · go_simp; rw [hfa] at T10010000000; exact hK _ _ T10010000000.out
            · go_simp; rw [hfa] at T01010000000; exact hK _ _ T01010000000.out
            · go_simp; rw [hfa] at T00011000000; exact hK _ _ T00011000000.out
            · go_simp; rw [hfa] at T00010010000; exact hK _ _ T00010010000.out
          have T00001011000 : Hid (G 8 #[false, false, false, false, true, false, true, true, false, false, false] (fa s24 s25 s26 s27 (.int .u64 (base : Int)) s29 (.int .u8 (d : Int)) (.int .u64 (d : Int)) s32) W'.drew) := by
            show G _ _ _ _
            rw [hfa]; dsimp only
            refine hstep _ _ _ _ [0, 1, 3] (by kernel_rfl) (by simp) (allR_cons rfl (fun K hK => ?_) (allR_cons rfl (fun K hK => ?_) (allR_cons rfl (fun K hK => ?_) allR_nil)))
            · go_simp; rw [hfa] at T10001011000; exact hK _ _ T10001011000.out
            · go_simp; rw [hfa] at T01001011000; exact hK _ _ T01001011000.out
            · go_simp; rw [hfa] at T00011011000; exact hK _ _ T00011011000.out
          have T00001010000 : Hid (G 9 #[false, false, false, false, true, false, true, false, false, false, false] (fa s24 s25 s26 s27 (.int .u64 (base : Int)) s29 (.int .u8 (d : Int)) s31 s32) W'.drew) := by
            show G _ _ _ _
            rw [hfa]; dsimp only
            refine hstep _ _ _ _ [0, 1, 3, 7] (by kernel_rfl) (by simp) (allR_cons rfl (fun K hK => ?_) (allR_cons rfl (fun K hK => ?_) (allR_cons rfl (fun K hK => ?_) (allR_cons rfl (fun K hK => ?_) allR_nil))))
            · go_simp; rw [hfa] at T10001010000; exact hK _ _ T10001010000.out
            · go_simp; rw [hfa] at T01001010000; exact hK _ _ T01001010000.out
            · go_simp; rw [hfa] at T00011010000; exact hK _ _ T00011010000.out
            · go_simp; rw [hfa] at T00001011000; exact hK _ _ T00001011000.out
          have T00001000000 : Hid (G 10 #[false, false, false, false, true, false, false, false, false, false, false] (fa s24 s25 s26 s27 (.int .u64 (base : Int)) s29 s30 s31 s32) W'.drew) := by
            show G _ _ _ _
            rw [hfa]; dsimp only
            refine hstep _ _ _ _ [0, 1, 3, 6] (by kernel_rfl) (by simp) (allR_cons rfl (fun K hK => ?_) (allR_cons rfl (fun K hK => ?_) (allR_cons rfl (fun K hK => ?_) (allR_cons rfl (fun K hK => ?_) allR_nil))))
            · go_simp; rw [hfa] at T10001000000; exact hK _ _ T10001000000.out
            · go_simp; rw [hfa] at T01001000000; exact hK _ _ T01001000000.out
            · go_simp; rw [hfa] at T00011000000; exact hK _ _ T00011000000.out
            · go_simp; rw [hfa] at T00001010000; exact hK _ _ T00001010000.out
          have T00000011000 : Hid (G 9 #[false, false, false, false, false, false, true, true, false, false, false] (fa s24 s25 s26 s27 s28 s29 (.int .u8 (d : Int)) (.int .u64 (d : Int)) s32) W'.drew) := by
            show G _ _ _ _
            rw [hfa]; dsimp only
            refine hstep _ _ _ _ [0, 1, 3, 4] (by kernel_rfl) (by simp) (allR_cons rfl (fun K hK => ?_) (allR_cons rfl (fun K hK => ?_) (allR_cons rfl (fun K hK => ?_) (allR_cons rfl (fun K hK => ?_) allR_nil))))
            · go_simp; rw [hfa] at T10000011000; exact hK _ _ T10000011000.out
            · go_simp; rw [hfa] at T01000011000; exact hK _ _ T01000011000.out
            · go_simp; rw [hfa] at T00010011000; exact hK _ _ T00010011000.out
            · go_simp; rw [hfa] at T00001011000; exact hK _ _ T00001011000.out
          have T00000010000 : Hid (G 10 #[false, false, false, false, false, false, true, false, false, false, false] (fa s24 s25 s26 s27 s28 s29 (.int .u8 (d : Int)) s31 s32) W'.drew) := by
            show G _ _ _ _
            rw [hfa]; dsimp only
            refine hstep _ _ _ _ [0, 1, 3, 4, 7] (by kernel_rfl) (by simp) (allR_cons rfl (fun K hK => ?_) (allR_cons rfl (fun K hK => ?_) (allR_cons rfl (fun K hK => ?_) (allR_cons rfl (fun K hK => ?_) (allR_cons rfl (fun K hK => ?_) allR_nil)))))
            · go_simp; rw [hfa] at T10000010000; exact hK _ _ T10000010000.out
            · go_simp; rw [hfa] at T01000010000; exact hK _ _ T01000010000.out
            · go_simp; rw [hfa] at T00010010000; exact hK _ _ T00010010000.out
            · go_simp; rw [hfa] at T00001010000; exact hK _ _ T00001010000.out
            · go_simp; rw [hfa] at T00000011000; exact hK _ _ T00000011000.out
          have T00000000000 : Hid (G 11 #[false, false, false, false, false, false, false, false, false, false, false] (fa s24 s25 s26 s27 s28 s29 s30 s31 s32) W'.drew) := by
            show G _ _ _ _
            rw [hfa]; dsimp only
            refine hstep _ _ _ _ [0, 1, 3, 4, 6] (by kernel_rfl) (by simp) (allR_cons rfl (fun K hK => ?_) (allR_cons rfl (fun K hK => ?_) (allR_cons rfl (fun K hK => ?_) (allR_cons rfl (fun K hK => ?_) (allR_cons rfl (fun K hK => ?_) allR_nil)))))
            · go_simp; rw [hfa] at T10000000000; exact hK _ _ T10000000000.out
            · go_simp; rw [hfa] at T01000000000; exact hK _ _ T01000000000.out
            · go_simp; rw [hfa] at T00010000000; exact hK _ _ T00010000000.out
            · go_simp; rw [hfa] at T00001000000; exact hK _ _ T00001000000.out
            · go_simp; rw [hfa] at T00000010000; exact hK _ _ T00000010000.out
          rw [hfa] at T00000000000
          exact T00000000000.out
        case done =>
          rintro D ys W' hD hys ⟨c7, c8, cI, hB'⟩ hK
          have hyl : ys.length = T.length := by have := congrArg List.length hys; rw [down_len] at this; simpa using this
          rw [hyl] at c7
          rw [came_all hys] at c8
          obtain ⟨hO, hMd, hMc, hMv, hMl⟩ := HM.out
          have hTl := HTL.out
          have TM := times32n (w.heap.size + 1) (.slice pu M.length cu) M (base ^ T.length) (val base T) W' (hO.on hB') (Nat.le_trans bB.lt hB'.size) hMd (pow8 hb (by omega) (by omega)) (by have h5 := val_lt (b := base) (by omega) hdT; have h6 := pow8 (j := T.length) hb (by omega) (by omega); omega) (by omega)
          have HVV : Hid (base ^ T.length * val 1000000000 M + val base T = val base (L.drop r)) := by
            show _ = _
            rw [hMv, HV.out, val_append, Nat.add_comm]
          have HDs : Hid (∀ w2, Nc W' w2 → (D :: Ds).Nodup ∧ ∀ E, E ∈ D :: Ds → w.heap.size ≤ E ∧ w2.heap[E]? = some (.deferred (some []))) := by
            intro w2 hN
            obtain ⟨hn1, hn2⟩ := HD.out
            refine ⟨List.nodup_cons.2 ⟨fun hmem => ?_, hn1⟩, fun E hE => ?_⟩
            · have h5 := (hn2 D hmem).2
              have h6 := (Array.getElem?_eq_some_iff.1 h5).1
              omega
            · rcases List.mem_cons.1 hE with rfl | hE
              · exact ⟨by have := hBw.size; omega, hN _ _ hK (fun _ _ h => by cases h)⟩
              · obtain ⟨h5, h6⟩ := hn2 E hE
                have h7 := (Array.getElem?_eq_some_iff.1 h6).1
                exact ⟨h5, hN _ _ ((hB'.block E h7).trans h6) (fun _ _ h => by cases h)⟩
          have HBB : Hid (∀ w2, Nc W' w2 → Boxed w2 w.heap.size 69 (.int .u64 (base : Int))) := fun w2 hN => hN _ _ ((hB'.block w.heap.size bB.lt).trans bB) (fun _ _ h => by cases h)
          have HBL : Hid (∀ w2, Below (w.heap.size + 1) W' w2 → Below w.heap.size w w2) := fun w2 h2 => (hBw.trans (hB'.mono hBw.size)).trans (h2.mono (by omega))
          have k7 := c7.cell
          have k8 := c8.cell
          generalize base ^ T.length = f at TM k7 HVV
          generalize val base T = m at TM k8 HVV
          clear c7 c8 cI HM HD hO hMv HV hys hyl hdT hRT hd hI
          gi_wp2_with (first | (refine ⟨trivial, ?_⟩; gi_at_call 70; refine (callsIn_wide.2 TM).mono ?_; rintro e w2 ⟨v2, l2, rfl, hO2, hB2, hd2, hc2, hv2, hl2, hN2⟩; obtain ⟨p2, cap2, rfl, -⟩ := hO2.form; have HQ : Hid _ := And.intro hO2 (And.intro hB2 (And.intro hd2 (And.intro hc2 (And.intro hv2 (And.intro hl2 hN2))))); clear hO2 hB2 hd2 hc2 hv2 hl2 hN2))
          obtain ⟨hO2, hB2, hd2, hc2, hv2, hl2, hN2⟩ := HQ.out
          refine ⟨⟨r, _, l2, D :: Ds, _, _, _, _, _, _, _, _, _, _, _, _, _, _, _, _, _, _, _, _, _, _, _, _, _, _, _, _, _, _, _, _, _, _, by omega, rfl, ⟨hO2, hd2, hc2, hv2.trans HVV.out, by omega⟩, HBB.out _ hN2, HBL.out _ hB2, HDs.out _ hN2⟩, ?_⟩
          simp [slen] <;> omega
        case stop =>
          rintro D c pre W hD hpre h hK
          exact absurd h (by simp)
      · skip
        have h8' : ¬ (8 : Int) < k := h8
        have hT : (L.take k).length = k := by rw [List.length_take]; omega
        have hRT : Rd .u8 w (some ⟨b, o, none⟩) (L.take k) := hI.take k
        have HV : Hid (L.drop 0 = L.take k ++ L.drop k) := by rw [List.take_append_drop]; rfl
        have hk8 : k ≤ 8 := by omega
        have S2 := slice_to8 (some ⟨b, o, none⟩) k cap 0 (by omega)
        have hdT : Dg base (L.take k) := hd.take k
        generalize L.take k = T at hT hRT HV hdT
        have hTL : T.length = k := hT
        have HTL : Hid (T.length = k) := hT
        clear hT hTL
        gi_wp2_with (first | (refine ⟨trivial, ?_⟩; gi_at_call 69; refine (backward_in _ _ _ _ _).mono ?_; rintro e w' ⟨rfl, rfl⟩))
        change Code.wpIn _ _ _ _ _ _ (gW W (some ⟨b, o, none⟩) k cap)
        obtain ⟨hsz, b7, b8, bI, hgB⟩ := gW_facts W (some ⟨b, o, none⟩) k cap
        generalize gW W (some ⟨b, o, none⟩) k cap = W0 at hsz b7 b8 bI hgB ⊢
        have hbl : b < w.heap.size := hI.lt ⟨b, o, none⟩ rfl (by omega)
        have hbW : b < W.heap.size := Nat.lt_of_lt_of_le hbl hBw.size
        rw [← HTL.out] at bI
        refine wpIn_rangeFunc_ownG rfl h1 (gf := 78) (lb := #[.pointer (some ⟨W.heap.size + 1 + 1, 0, none⟩)]) rfl trivial (enters_of Try.func78 (by kernel_rfl) rfl)
          (back_stops (n - 1) (by omega) (W.heap.size + 1 + 1) W.heap.size cap (some ⟨b, o, none⟩) T (by have := HTL.out; omega) W0 (by omega) (by omega) bI.cell ((hRT.on hBw).on hgB) (fun a e _ => by cases e; exact hbW))
          (fun h k => Kp.trans h k) (hKb1 (by omega) (by omega)) (Below.refl _ _) (fun _ => rfl)
          (Gr W base (some ⟨b, o, none⟩) cap T) (fun _ _ _ => False) (Gr_own W base _ _ T _ (by omega)) (fun c => ownFrom_pure _ _)
          ⟨b7, b8, bI, hgB⟩
          (fun x => { tmps := #[.slice (some ⟨b, o, none⟩) k cap, .int .u64 base, undef, .pointer (some ⟨w.heap.size, 0, none⟩), .slice none 0 0, .slice pu M.length cu, .int .i64 0, .pointer (some ⟨W.heap.size, 0, none⟩), .pointer (some ⟨W.heap.size + 1, 0, none⟩), s9, .int .u8 (nAt T x.1 : Nat), .slice (some ⟨b, o, none⟩) k cap, .int .i64 k, .bool true, .slice (some ⟨b, o, none⟩) k cap, .int .i64 k, .int .i64 ((k : Int) - 8), .int .i64 0, .slice (some ⟨b, o, none⟩) k cap, .int .i64 0, .slice (some ⟨b, o, none⟩) k cap, .func (.func 78) #[] #[.pointer (some ⟨W.heap.size + 1 + 1, 0, none⟩)], .int .i64 (x.1 : Nat), .int .u8 (nAt T x.1 : Nat), s24, s25, s26, s27, s28, s29, s30, s31, s32, s33, s34, s35, s36, s37, s38, s39, undef], defers := [] }) ?assign ?body ?done ?stop
        case assign =>
          intro l x W K hK
          simp only [encB]
          gi_wp2
          exact hK
        case body =>
          clear b7 b8 bI hgB
          rintro lo pre x W' ⟨c7, c8, cI, hB'⟩ hlt
          have k7 := c7.cell
          have k8 := c8.cell
          have f7 := c7.frozen
          have f8 := c8.frozen
          have k3 := (hB'.cell (p := ⟨w.heap.size, 0, none⟩) bB.lt).trans bB.cell
          have hplen : pre.length + 1 ≤ 8 := by have := HTL.out; omega
          have hv8 := val_lt (b := base) (by omega) (came_dg hdT pre)
          rw [came_len] at hv8
          have hp1 := pow8 hb (show pre.length + 1 ≤ 8 from hplen) (by omega)
          rw [Nat.pow_succ] at hp1
          have hdx := hdT.at x.2
          have HN : Hid (∀ W2, Boxed W2 W.heap.size 69 (.int .u64 ((base ^ pre.length * base : Nat) : Int)) → Boxed W2 (W.heap.size + 1) 69 (.int .u64 ((val base (came T pre) * base + nAt T x.1 : Nat) : Int)) → Boxed W2 (W.heap.size + 1 + 1) 62 (.slice (some ⟨b, o, none⟩) T.length cap) → Below W.heap.size W W2 → Gr W base (some ⟨b, o, none⟩) cap T (pre ++ [x]) W2) := by
            intro W2 h1 h2 h3 h4
            refine ⟨?_, ?_, h3, h4⟩
            · rw [List.length_append, List.length_singleton, Nat.pow_succ]; exact h1
            · rw [came_snoc, val, Nat.mul_comm base, Nat.add_comm (nAt T x.1)]; exact h2
          generalize nAt T x.1 = d at hdx HN ⊢
          generalize val base (came T pre) = m at k8 hv8 HN c8
          have hmb : m * base + base ≤ base ^ pre.length * base := by
            have := Nat.mul_le_mul_right base (show m + 1 ≤ base ^ pre.length from hv8)
            rw [Nat.add_mul, Nat.one_mul] at this
            exact this
          generalize base ^ pre.length = f at k7 hp1 hmb HN c7 hv8
          have e1 : (f : Int) * (base : Int) = ((f * base : Nat) : Int) := by simp
          have e2 : (m : Int) * (base : Int) = ((m * base : Nat) : Int) := by simp
          generalize f * base = fb at e1 hp1 hmb HN
          generalize m * base = mb at e2 hmb HN
          have hbw := bB.lt
          have n1 : ¬ w.heap.size = W.heap.size := by omega
          have n2 : ¬ W.heap.size = w.heap.size := by omega
          have n3 : ¬ w.heap.size = W.heap.size + 1 := by omega
          have e3 : ((mb + d : Nat) : Int) = (mb : Int) + (d : Int) := by omega
          have q1 := wrapu fb (by omega)
          have q2 := wrapu mb (by omega)
          have q3 := wrapu (mb + d) (by omega)
          rw [e3] at q3
          have q4 := wrapu d (by omega)
          rw [e3] at HN
          obtain ⟨fa, hfa⟩ : ∃ fa : Value → Value → Value → Value → Value → Value → Value → Value → Value → Act, fa = fun v24 v25 v26 v27 v28 v29 v30 v31 v32 => { tmps := #[.slice (some ⟨b, o, none⟩) k cap, .int .u64 base, undef, .pointer (some ⟨w.heap.size, 0, none⟩), .slice none 0 0, .slice pu M.length cu, .int .i64 0, .pointer (some ⟨W.heap.size, 0, none⟩), .pointer (some ⟨W.heap.size + 1, 0, none⟩), s9, .int .u8 (d : Int), .slice (some ⟨b, o, none⟩) k cap, .int .i64 k, .bool true, .slice (some ⟨b, o, none⟩) k cap, .int .i64 k, .int .i64 ((k : Int) - 8), .int .i64 0, .slice (some ⟨b, o, none⟩) k cap, .int .i64 0, .slice (some ⟨b, o, none⟩) k cap, .func (.func 78) #[] #[.pointer (some ⟨W.heap.size + 1 + 1, 0, none⟩)], .int .i64 (x.1 : Nat), .int .u8 (d : Int), v24, v25, v26, v27, v28, v29, v30, v31, v32, s33, s34, s35, s36, s37, s38, s39, undef], defers := [] } := ⟨_, rfl⟩
          have HFIN : Hid (ownPostG W0.heap.size (Kp W.heap.size (W.heap.size + 1 + 1)) (Gr W base (some ⟨b, o, none⟩) cap T) (fun _ _ _ => False) (pre ++ [x]) W' .normal { tmps := #[], defers := [] } ((W'.drew.setCell ⟨W.heap.size, 0, none⟩ (.int .u64 (fb : Int))).setCell ⟨W.heap.size + 1, 0, none⟩ (.int .u64 ((mb : Int) + (d : Int))))) := by
            have d7 : Boxed W'.drew W.heap.size 69 (.int .u64 (f : Int)) := c7
            have d8 : Boxed W'.drew (W.heap.size + 1) 69 (.int .u64 (m : Int)) := c8
            have dI : Boxed W'.drew (W.heap.size + 1 + 1) 62 (.slice (some ⟨b, o, none⟩) T.length cap) := cI
            have bI2 := (dI.other (B' := W.heap.size) (by omega) (.int .u64 (fb : Int))).other (B' := W.heap.size + 1) (by omega) (.int .u64 ((mb : Int) + (d : Int)))
            have hBl := (((Below.refl W.heap.size W').drew.setCell (p := ⟨W.heap.size, 0, none⟩) (Nat.le_refl _) (.int .u64 (fb : Int))).setCell (p := ⟨W.heap.size + 1, 0, none⟩) (by show W.heap.size ≤ W.heap.size + 1; omega) (.int .u64 ((mb : Int) + (d : Int))))
            refine ⟨((KeepsOthers.drew W').trans ((KeepsOthers.setCell _ _ _).trans (KeepsOthers.setCell _ _ _))).from _, ⟨hBl, Eq.trans bI2 (Eq.symm cI)⟩, HN.out _ ?_ ?_ bI2 (hB'.trans hBl)⟩
            · exact (d7.set _).other (by omega) _
            · exact (d8.other (by omega) _).set _
          clear HN HM HD c7 c8 cI hB' hplen hv8 hdT HV HTL hRT bB hBw hd hI
          gi_wp2
          refine capture (by kernel_rfl) ?_
          intro G hstep hdone
          have T11111111111 : Hid (G 0 #[true, true, true, true, true, true, true, true, true, true, true] (fa (.int .u64 (f : Int)) (.int .u64 (base : Int)) (.int .u64 (fb : Int)) (.int .u64 (m : Int)) (.int .u64 (base : Int)) (.int .u64 (mb : Int)) (.int .u8 (d : Int)) (.int .u64 (d : Int)) (.int .u64 ((mb : Int) + (d : Int)))) (((W'.drew).setCell ⟨W.heap.size, 0, none⟩ (.int .u64 (fb : Int))).setCell ⟨W.heap.size + 1, 0, none⟩ (.int .u64 ((mb : Int) + (d : Int))))) := hdone _ _ _ _ (by kernel_rfl) (HFIN.out)
          have T11111111110 : Hid (G 1 #[true, true, true, true, true, true, true, true, true, true, false] (fa (.int .u64 (f : Int)) (.int .u64 (base : Int)) (.int .u64 (fb : Int)) (.int .u64 (m : Int)) (.int .u64 (base : Int)) (.int .u64 (mb : Int)) (.int .u8 (d : Int)) (.int .u64 (d : Int)) (.int .u64 ((mb : Int) + (d : Int)))) ((W'.drew).setCell ⟨W.heap.size, 0, none⟩ (.int .u64 (fb : Int)))) := by
            show G _ _ _ _
            rw [hfa]; dsimp only
            refine hstep _ _ _ _ [10] (by kernel_rfl) (by simp) (allR_cons rfl (fun K hK => ?_) allR_nil)
            · go_simp; rw [hfa] at T11111111111; exact hK _ _ T11111111111.out
          have T11111111100 : Hid (G 2 #[true, true, true, true, true, true, true, true, true, false, false] (fa (.int .u64 (f : Int)) (.int .u64 (base : Int)) (.int .u64 (fb : Int)) (.int .u64 (m : Int)) (.int .u64 (base : Int)) (.int .u64 (mb : Int)) (.int .u8 (d : Int)) (.int .u64 (d : Int)) (.int .u64 ((mb : Int) + (d : Int)))) W'.drew) := by
            show G _ _ _ _
            rw [hfa]; dsimp only
            refine hstep _ _ _ _ [9] (by kernel_rfl) (by simp) (allR_cons rfl (fun K hK => ?_) allR_nil)
            · go_simp; rw [hfa] at T11111111110; exact hK _ _ T11111111110.out
          have T11111111010 : Hid (G 2 #[true, true, true, true, true, true, true, true, false, true, false] (fa (.int .u64 (f : Int)) (.int .u64 (base : Int)) (.int .u64 (fb : Int)) (.int .u64 (m : Int)) (.int .u64 (base : Int)) (.int .u64 (mb : Int)) (.int .u8 (d : Int)) (.int .u64 (d : Int)) s32) ((W'.drew).setCell ⟨W.heap.size, 0, none⟩ (.int .u64 (fb : Int)))) := by
            show G _ _ _ _
            rw [hfa]; dsimp only
            refine hstep _ _ _ _ [8] (by kernel_rfl) (by simp) (allR_cons rfl (fun K hK => ?_) allR_nil)
            · go_simp; rw [hfa] at T11111111110; exact hK _ _ T11111111110.out
          have T11111111000 : Hid (G 3 #[true, true, true, true, true, true, true, true, false, false, false] (fa (.int .u64 (f : Int)) (.int .u64 (base : Int)) (.int .u64 (fb : Int)) (.int .u64 (m : Int)) (.int .u64 (base : Int)) (.int .u64 (mb : Int)) (.int .u8 (d : Int)) (.int .u64 (d : Int)) s32) W'.drew) := by
            show G _ _ _ _
            rw [hfa]; dsimp only
            refine hstep _ _ _ _ [8, 9] (by kernel_rfl) (by simp) (allR_cons rfl (fun K hK => ?_) (allR_cons rfl (fun K hK => ?_) allR_nil))
            · go_simp; rw [hfa] at T11111111100; exact hK _ _ T11111111100.out
            · go_simp; rw [hfa] at T11111111010; exact hK _ _ T11111111010.out
          have T11111110010 : Hid (G 3 #[true, true, true, true, true, true, true, false, false, true, false] (fa (.int .u64 (f : Int)) (.int .u64 (base : Int)) (.int .u64 (fb : Int)) (.int .u64 (m : Int)) (.int .u64 (base : Int)) (.int .u64 (mb : Int)) (.int .u8 (d : Int)) s31 s32) ((W'.drew).setCell ⟨W.heap.size, 0, none⟩ (.int .u64 (fb : Int)))) := by
            show G _ _ _ _
            rw [hfa]; dsimp only
            refine hstep _ _ _ _ [7] (by kernel_rfl) (by simp) (allR_cons rfl (fun K hK => ?_) allR_nil)
            · go_simp; rw [hfa] at T11111111010; exact hK _ _ T11111111010.out
          have T11111110000 : Hid (G 4 #[true, true, true, true, true, true, true, false, false, false, false] (fa (.int .u64 (f : Int)) (.int .u64 (base : Int)) (.int .u64 (fb : Int)) (.int .u64 (m : Int)) (.int .u64 (base : Int)) (.int .u64 (mb : Int)) (.int .u8 (d : Int)) s31 s32) W'.drew) := by
            show G _ _ _ _
            rw [hfa]; dsimp only
            refine hstep _ _ _ _ [7, 9] (by kernel_rfl) (by simp) (allR_cons rfl (fun K hK => ?_) (allR_cons rfl (fun K hK => ?_) allR_nil))
            · go_simp; rw [hfa] at T11111111000; exact hK _ _ T11111111000.out
            · go_simp; rw [hfa] at T11111110010; exact hK _ _ T11111110010.out
          have T11111100010 : Hid (G 4 #[true, true, true, true, true, true, false, false, false, true, false] (fa (.int .u64 (f : Int)) (.int .u64 (base : Int)) (.int .u64 (fb : Int)) (.int .u64 (m : Int)) (.int .u64 (base : Int)) (.int .u64 (mb : Int)) s30 s31 s32) ((W'.drew).setCell ⟨W.heap.size, 0, none⟩ (.int .u64 (fb : Int)))) := by
            show G _ _ _ _
            rw [hfa]; dsimp only
            refine hstep _ _ _ _ [6] (by kernel_rfl) (by simp) (allR_cons rfl (fun K hK => ?_) allR_nil)
            · go_simp; rw [hfa] at T11111110010; exact hK _ _ T11111110010.out
          have T11111100000 : Hid (G 5 #[true, true, true, true, true, true, false, false, false, false, false] (fa (.int .u64 (f : Int)) (.int .u64 (base : Int)) (.int .u64 (fb : Int)) (.int .u64 (m : Int)) (.int .u64 (base : Int)) (.int .u64 (mb : Int)) s30 s31 s32) W'.drew) := by
            show G _ _ _ _
            rw [hfa]; dsimp only
            refine hstep _ _ _ _ [6, 9] (by kernel_rfl) (by simp) (allR_cons rfl (fun K hK => ?_) (allR_cons rfl (fun K hK => ?_) allR_nil))
            · go_simp; rw [hfa] at T11111110000; exact hK _ _ T11111110000.out
            · go_simp; rw [hfa] at T11111100010; exact hK _ _ T11111100010.out
          have T11111011010 : Hid (G 3 #[true, true, true, true, true, false, true, true, false, true, false] (fa (.int .u64 (f : Int)) (.int .u64 (base : Int)) (.int .u64 (fb : Int)) (.int .u64 (m : Int)) (.int .u64 (base : Int)) s29 (.int .u8 (d : Int)) (.int .u64 (d : Int)) s32) ((W'.drew).setCell ⟨W.heap.size, 0, none⟩ (.int .u64 (fb : Int)))) := by
            show G _ _ _ _
            rw [hfa]; dsimp only
            refine hstep _ _ _ _ [5] (by kernel_rfl) (by simp) (allR_cons rfl (fun K hK => ?_) allR_nil)
            · go_simp; rw [hfa] at T11111111010; exact hK _ _ T11111111010.out
          have T11111011000 : Hid (G 4 #[true, true, true, true, true, false, true, true, false, false, false] (fa (.int .u64 (f : Int)) (.int .u64 (base : Int)) (.int .u64 (fb : Int)) (.int .u64 (m : Int)) (.int .u64 (base : Int)) s29 (.int .u8 (d : Int)) (.int .u64 (d : Int)) s32) W'.drew) := by
            show G _ _ _ _
            rw [hfa]; dsimp only
            refine hstep _ _ _ _ [5, 9] (by kernel_rfl) (by simp) (allR_cons rfl (fun K hK => ?_) (allR_cons rfl (fun K hK => ?_) allR_nil))
            · go_simp; rw [hfa] at T11111111000; exact hK _ _ T11111111000.out
            · go_simp; rw [hfa] at T11111011010; exact hK _ _ T11111011010.out
          have T11111010010 : Hid (G 4 #[true, true, true, true, true, false, true, false, false, true, false] (fa (.int .u64 (f : Int)) (.int .u64 (base : Int)) (.int .u64 (fb : Int)) (.int .u64 (m : Int)) (.int .u64 (base : Int)) s29 (.int .u8 (d : Int)) s31 s32) ((W'.drew).setCell ⟨W.heap.size, 0, none⟩ (.int .u64 (fb : Int)))) := by
            show G _ _ _ _
            rw [hfa]; dsimp only
            refine hstep _ _ _ _ [5, 7] (by kernel_rfl) (by simp) (allR_cons rfl (fun K hK => ?_) (allR_cons rfl (fun K hK => ?_) allR_nil))
            · go_simp; rw [hfa] at T11111110010; exact hK _ _ T11111110010.out
            · go_simp; rw [hfa] at T11111011010; exact hK _ _ T11111011010.out
          have T11111010000 : Hid (G 5 #[true, true, true, true, true, false, true, false, false, false, false] (fa (.int .u64 (f : Int)) (.int .u64 (base : Int)) (.int .u64 (fb : Int)) (.int .u64 (m : Int)) (.int .u64 (base : Int)) s29 (.int .u8 (d : Int)) s31 s32) W'.drew) := by
            show G _ _ _ _
            rw [hfa]; dsimp only
            refine hstep _ _ _ _ [5, 7, 9] (by kernel_rfl) (by simp) (allR_cons rfl (fun K hK => ?_) (allR_cons rfl (fun K hK => ?_) (allR_cons rfl (fun K hK => ?_) allR_nil)))
            · go_simp; rw [hfa] at T11111110000; exact hK _ _ T11111110000.out
            · go_simp; rw [hfa] at T11111011000; exact hK _ _ T11111011000.out
            · go_simp; rw [hfa] at T11111010010; exact hK _ _ T11111010010.out
          have T11111000010 : Hid (G 5 #[true, true, true, true, true, false, false, false, false, true, false] (fa (.int .u64 (f : Int)) (.int .u64 (base : Int)) (.int .u64 (fb : Int)) (.int .u64 (m : Int)) (.int .u64 (base : Int)) s29 s30 s31 s32) ((W'.drew).setCell ⟨W.heap.size, 0, none⟩ (.int .u64 (fb : Int)))) := by
            show G _ _ _ _
            rw [hfa]; dsimp only
            refine hstep _ _ _ _ [5, 6] (by kernel_rfl) (by simp) (allR_cons rfl (fun K hK => ?_) (allR_cons rfl (fun K hK => ?_) allR_nil))
            · go_simp; rw [hfa] at T11111100010; exact hK _ _ T11111100010.out
            · go_simp; rw [hfa] at T11111010010; exact hK _ _ T11111010010.out
          have T11111000000 : Hid (G 6 #[true, true, true, true, true, false, false, false, false, false, false] (fa (.int .u64 (f : Int)) (.int .u64 (base : Int)) (.int .u64 (fb : Int)) (.int .u64 (m : Int)) (.int .u64 (base : Int)) s29 s30 s31 s32) W'.drew) := by
            show G _ _ _ _
            rw [hfa]; dsimp only
            refine hstep _ _ _ _ [5, 6, 9] (by kernel_rfl) (by simp) (allR_cons rfl (fun K hK => ?_) (allR_cons rfl (fun K hK => ?_) (allR_cons rfl (fun K hK => ?_) allR_nil)))
            · go_simp; rw [hfa] at T11111100000; exact hK _ _ T11111100000.out
            · go_simp; rw [hfa] at T11111010000; exact hK _ _ T11111010000.out
            · go_simp; rw [hfa] at T11111000010; exact hK _ _ T11111000010.out
          have T11110011010 : Hid (G 4 #[true, true, true, true, false, false, true, true, false, true, false] (fa (.int .u64 (f : Int)) (.int .u64 (base : Int)) (.int .u64 (fb : Int)) (.int .u64 (m : Int)) s28 s29 (.int .u8 (d : Int)) (.int .u64 (d : Int)) s32) ((W'.drew).setCell ⟨W.heap.size, 0, none⟩ (.int .u64 (fb : Int)))) := by
            show G _ _ _ _
            rw [hfa]; dsimp only
            refine hstep _ _ _ _ [4] (by kernel_rfl) (by simp) (allR_cons rfl (fun K hK => ?_) allR_nil)
            · go_simp; rw [hfa] at T11111011010; exact hK _ _ T11111011010.out
          have T11110011000 : Hid (G 5 #[true, true, true, true, false, false, true, true, false, false, false] (fa (.int .u64 (f : Int)) (.int .u64 (base : Int)) (.int .u64 (fb : Int)) (.int .u64 (m : Int)) s28 s29 (.int .u8 (d : Int)) (.int .u64 (d : Int)) s32) W'.drew) := by
            show G _ _ _ _
            rw [hfa]; dsimp only
            refine hstep _ _ _ _ [4, 9] (by kernel_rfl) (by simp) (allR_cons rfl (fun K hK => ?_) (allR_cons rfl (fun K hK => ?_) allR_nil))
            · go_simp; rw [hfa] at T11111011000; exact hK _ _ T11111011000.out
            · go_simp; rw [hfa] at T11110011010; exact hK _ _ T11110011010.out
          have T11110010010 : Hid (G 5 #[true, true, true, true, false, false, true, false, false, true, false] (fa (.int .u64 (f : Int)) (.int .u64 (base : Int)) (.int .u64 (fb : Int)) (.int .u64 (m : Int)) s28 s29 (.int .u8 (d : Int)) s31 s32) ((W'.drew).setCell ⟨W.heap.size, 0, none⟩ (.int .u64 (fb : Int)))) := by
            show G _ _ _ _
            rw [hfa]; dsimp only
            refine hstep _ _ _ _ [4, 7] (by kernel_rfl) (by simp) (allR_cons rfl (fun K hK => ?_) (allR_cons rfl (fun K hK => ?_) allR_nil))
            · go_simp; rw [hfa] at T11111010010; exact hK _ _ T11111010010.out
            · go_simp; rw [hfa] at T11110011010; exact hK _ _ T11110011010.out
          have T11110010000 : Hid (G 6 #[true, true, true, true, false, false, true, false, false, false, false] (fa (.int .u64 (f : Int)) (.int .u64 (base : Int)) (.int .u64 (fb : Int)) (.int .u64 (m : Int)) s28 s29 (.int .u8 (d : Int)) s31 s32) W'.drew) := by
            show G _ _ _ _
            rw [hfa]; dsimp only
            refine hstep _ _ _ _ [4, 7, 9] (by kernel_rfl) (by simp) (allR_cons rfl (fun K hK => ?_) (allR_cons rfl (fun K hK => ?_) (allR_cons rfl (fun K hK => ?_) allR_nil)))
            · go_simp; rw [hfa] at T11111010000; exact hK _ _ T11111010000.out
            · go_simp; rw [hfa] at T11110011000; exact hK _ _ T11110011000.out
            · go_simp; rw [hfa] at T11110010010; exact hK _ _ T11110010010.out
          have T11110000010 : Hid (G 6 #[true, true, true, true, false, false, false, false, false, true, false] (fa (.int .u64 (f : Int)) (.int .u64 (base : Int)) (.int .u64 (fb : Int)) (.int .u64 (m : Int)) s28 s29 s30 s31 s32) ((W'.drew).setCell ⟨W.heap.size, 0, none⟩ (.int .u64 (fb : Int)))) := by
            show G _ _ _ _
            rw [hfa]; dsimp only
            refine hstep _ _ _ _ [4, 6] (by kernel_rfl) (by simp) (allR_cons rfl (fun K hK => ?_) (allR_cons rfl (fun K hK => ?_) allR_nil))
            · go_simp; rw [hfa] at T11111000010; exact hK _ _ T11111000010.out
            · go_simp; rw [hfa] at T11110010010; exact hK _ _ T11110010010.out
          have T11110000000 : Hid (G 7 #[true, true, true, true, false, false, false, false, false, false, false] (fa (.int .u64 (f : Int)) (.int .u64 (base : Int)) (.int .u64 (fb : Int)) (.int .u64 (m : Int)) s28 s29 s30 s31 s32) W'.drew) := by
            show G _ _ _ _
            rw [hfa]; dsimp only
            refine hstep _ _ _ _ [4, 6, 9] (by kernel_rfl) (by simp) (allR_cons rfl (fun K hK => ?_) (allR_cons rfl (fun K hK => ?_) (allR_cons rfl (fun K hK => ?_) allR_nil)))
            · go_simp; rw [hfa] at T11111000000; exact hK _ _ T11111000000.out
            · go_simp; rw [hfa] at T11110010000; exact hK _ _ T11110010000.out
            · go_simp; rw [hfa] at T11110000010; exact hK _ _ T11110000010.out
          have T11101011010 : Hid (G 4 #[true, true, true, false, true, false, true, true, false, true, false] (fa (.int .u64 (f : Int)) (.int .u64 (base : Int)) (.int .u64 (fb : Int)) s27 (.int .u64 (base : Int)) s29 (.int .u8 (d : Int)) (.int .u64 (d : Int)) s32) ((W'.drew).setCell ⟨W.heap.size, 0, none⟩ (.int .u64 (fb : Int)))) := by
            show G _ _ _ _
            rw [hfa]; dsimp only
            refine hstep _ _ _ _ [3] (by kernel_rfl) (by simp) (allR_cons rfl (fun K hK => ?_) allR_nil)
            · go_simp; rw [hfa] at T11111011010; exact hK _ _ T11111011010.out
          have T11101011000 : Hid (G 5 #[true, true, true, false, true, false, true, true, false, false, false] (fa (.int .u64 (f : Int)) (.int .u64 (base : Int)) (.int .u64 (fb : Int)) s27 (.int .u64 (base : Int)) s29 (.int .u8 (d : Int)) (.int .u64 (d : Int)) s32) W'.drew) := by
            show G _ _ _ _
            rw [hfa]; dsimp only
            refine hstep _ _ _ _ [3, 9] (by kernel_rfl) (by simp) (allR_cons rfl (fun K hK => ?_) (allR_cons rfl (fun K hK => ?_) allR_nil))
            · go_simp; rw [hfa] at T11111011000; exact hK _ _ T11111011000.out
            · go_simp; rw [hfa] at T11101011010; exact hK _ _ T11101011010.out
          have T11101010010 : Hid (G 5 #[true, true, true, false, true, false, true, false, false, true, false] (fa (.int .u64 (f : Int)) (.int .u64 (base : Int)) (.int .u64 (fb : Int)) s27 (.int .u64 (base : Int)) s29 (.int .u8 (d : Int)) s31 s32) ((W'.drew).setCell ⟨W.heap.size, 0, none⟩ (.int .u64 (fb : Int)))) := by
            show G _ _ _ _
            rw [hfa]; dsimp only
            refine hstep _ _ _ _ [3, 7] (by kernel_rfl) (by simp) (allR_cons rfl (fun K hK => ?_) (allR_cons rfl (fun K hK => ?_) allR_nil))
            · go_simp; rw [hfa] at T11111010010; exact hK _ _ T11111010010.out
            · go_simp; rw [hfa] at T11101011010; exact hK _ _ T11101011010.out
          have T11101010000 : Hid (G 6 #[true, true, true, false, true, false, true, false, false, false, false] (fa (.int .u64 (f : Int)) (.int .u64 (base : Int)) (.int .u64 (fb : Int)) s27 (.int .u64 (base : Int)) s29 (.int .u8 (d : Int)) s31 s32) W'.drew) := by
            show G _ _ _ _
            rw [hfa]; dsimp only
            refine hstep _ _ _ _ [3, 7, 9] (by kernel_rfl) (by simp) (allR_cons rfl (fun K hK => ?_) (allR_cons rfl (fun K hK => ?_) (allR_cons rfl (fun K hK => ?_) allR_nil)))
            · go_simp; rw [hfa] at T11111010000; exact hK _ _ T11111010000.out
            · go_simp; rw [hfa] at T11101011000; exact hK _ _ T11101011000.out
            · go_simp; rw [hfa] at T11101010010; exact hK _ _ T11101010010.out
          have T11101000010 : Hid (G 6 #[true, true, true, false, true, false, false, false, false, true, false] (fa (.int .u64 (f : Int)) (.int .u64 (base : Int)) (.int .u64 (fb : Int)) s27 (.int .u64 (base : Int)) s29 s30 s31 s32) ((W'.drew).setCell ⟨W.heap.size, 0, none⟩ (.int .u64 (fb : Int)))) := by
            show G _ _ _ _
            rw [hfa]; dsimp only
            refine hstep _ _ _ _ [3, 6] (by kernel_rfl) (by simp) (allR_cons rfl (fun K hK => ?_) (allR_cons rfl (fun K hK => ?_) allR_nil))
            · go_simp; rw [hfa] at T11111000010; exact hK _ _ T11111000010.out
            · go_simp; rw [hfa] at T11101010010; exact hK _ _ T11101010010.out
          have T11101000000 : Hid (G 7 #[true, true, true, false, true, false, false, false, false, false, false] (fa (.int .u64 (f : Int)) (.int .u64 (base : Int)) (.int .u64 (fb : Int)) s27 (.int .u64 (base : Int)) s29 s30 s31 s32) W'.drew) := by
            show G _ _ _ _
            rw [hfa]; dsimp only
            refine hstep _ _ _ _ [3, 6, 9] (by kernel_rfl) (by simp) (allR_cons rfl (fun K hK => ?_) (allR_cons rfl (fun K hK => ?_) (allR_cons rfl (fun K hK => ?_) allR_nil)))
            · go_simp; rw [hfa] at T11111000000; exact hK _ _ T11111000000.out
            · go_simp; rw [hfa] at T11101010000; exact hK _ _ T11101010000.out
            · go_simp; rw [hfa] at T11101000010; exact hK _ _ T11101000010.out
          have T11100011010 : Hid (G 5 #[true, true, true, false, false, false, true, true, false, true, false] (fa (.int .u64 (f : Int)) (.int .u64 (base : Int)) (.int .u64 (fb : Int)) s27 s28 s29 (.int .u8 (d : Int)) (.int .u64 (d : Int)) s32) ((W'.drew).setCell ⟨W.heap.size, 0, none⟩ (.int .u64 (fb : Int)))) := by
            show G _ _ _ _
            rw [hfa]; dsimp only
            refine hstep _ _ _ _ [3, 4] (by kernel_rfl) (by simp) (allR_cons rfl (fun K hK => ?_) (allR_cons rfl (fun K hK => ?_) allR_nil))
            · go_simp; rw [hfa] at T11110011010; exact hK _ _ T11110011010.out
            · go_simp; rw [hfa] at T11101011010; exact hK _ _ T11101011010.out
          have T11100011000 : Hid (G 6 #[true, true, true, false, false, false, true, true, false, false, false] (fa (.int .u64 (f : Int)) (.int .u64 (base : Int)) (.int .u64 (fb : Int)) s27 s28 s29 (.int .u8 (d : Int)) (.int .u64 (d : Int)) s32) W'.drew) := by
            show G _ _ _ _
            rw [hfa]; dsimp only
            refine hstep _ _ _ _ [3, 4, 9] (by kernel_rfl) (by simp) (allR_cons rfl (fun K hK => ?_) (allR_cons rfl (fun K hK => ?_) (allR_cons rfl (fun K hK => ?_) allR_nil)))
            · go_simp; rw [hfa] at T11110011000; exact hK _ _ T11110011000.out
            · go_simp; rw [hfa] at T11101011000; exact hK _ _ T11101011000.out
            · go_simp; rw [hfa] at T11100011010; exact hK _ _ T11100011010.out
          have T11100010010 : Hid (G 6 #[true, true, true, false, false, false, true, false, false, true, false] (fa (.int .u64 (f : Int)) (.int .u64 (base : Int)) (.int .u64 (fb : Int)) s27 s28 s29 (.int .u8 (d : Int)) s31 s32) ((W'.drew).setCell ⟨W.heap.size, 0, none⟩ (.int .u64 (fb : Int)))) := by
            show G _ _ _ _
            rw [hfa]; dsimp only
            refine hstep _ _ _ _ [3, 4, 7] (by kernel_rfl) (by simp) (allR_cons rfl (fun K hK => ?_) (allR_cons rfl (fun K hK => ?_) (allR_cons rfl (fun K hK => ?_) allR_nil)))
            · go_simp; rw [hfa] at T11110010010; exact hK _ _ T11110010010.out
            · go_simp; rw [hfa] at T11101010010; exact hK _ _ T11101010010.out
            · go_simp; rw [hfa] at T11100011010; exact hK _ _ T11100011010.out
          have T11100010000 : Hid (G 7 #[true, true, true, false, false, false, true, false, false, false, false] (fa (.int .u64 (f : Int)) (.int .u64 (base : Int)) (.int .u64 (fb : Int)) s27 s28 s29 (.int .u8 (d : Int)) s31 s32) W'.drew) := by
            show G _ _ _ _
            rw [hfa]; dsimp only
            refine hstep _ _ _ _ [3, 4, 7, 9] (by kernel_rfl) (by simp) (allR_cons rfl (fun K hK => ?_) (allR_cons rfl (fun K hK => ?_) (allR_cons rfl (fun K hK => ?_) (allR_cons rfl (fun K hK => ?_) allR_nil))))
            · go_simp; rw [hfa] at T11110010000; exact hK _ _ T11110010000.out
            · go_simp; rw [hfa] at T11101010000; exact hK _ _ T11101010000.out
            · go_simp; rw [hfa] at T11100011000; exact hK _ _ T11100011000.out
            · go_simp; rw [hfa] at T11100010010; exact hK _ _ T11100010010.out
          have T11100000010 : Hid (G 7 #[true, true, true, false, false, false, false, false, false, true, false] (fa (.int .u64 (f : Int)) (.int .u64 (base : Int)) (.int .u64 (fb : Int)) s27 s28 s29 s30 s31 s32) ((W'.drew).setCell ⟨W.heap.size, 0, none⟩ (.int .u64 (fb : Int)))) := by
            show G _ _ _ _
            rw [hfa]; dsimp only
            refine hstep _ _ _ _ [3, 4, 6] (by kernel_rfl) (by simp) (allR_cons rfl (fun K hK => ?_) (allR_cons rfl (fun K hK => ?_) (allR_cons rfl (fun K hK => ?_) allR_nil)))
            · go_simp; rw [hfa] at T11110000010; exact hK _ _ T11110000010.out
            · go_simp; rw [hfa] at T11101000010; exact hK _ _ T11101000010.out
            · go_simp; rw [hfa] at T11100010010; exact hK _ _ T11100010010.out
          have T11100000000 : Hid (G 8 #[true, true, true, false, false, false, false, false, false, false, false] (fa (.int .u64 (f : Int)) (.int .u64 (base : Int)) (.int .u64 (fb : Int)) s27 s28 s29 s30 s31 s32) W'.drew) := by
            show G _ _ _ _
            rw [hfa]; dsimp only
            refine hstep _ _ _ _ [3, 4, 6, 9] (by kernel_rfl) (by simp) (allR_cons rfl (fun K hK => ?_) (allR_cons rfl (fun K hK => ?_) (allR_cons rfl (fun K hK => ?_) (allR_cons rfl (fun K hK => ?_) allR_nil))))
            · go_simp; rw [hfa] at T11110000000; exact hK _ _ T11110000000.out
            · go_simp; rw [hfa] at T11101000000; exact hK _ _ T11101000000.out
            · go_simp; rw [hfa] at T11100010000; exact hK _ _ T11100010000.out
            · go_simp; rw [hfa] at T11100000010; exact hK _ _ T11100000010.out
          have T11011111100 : Hid (G 3 #[true, true, false, true, true, true, true, true, true, false, false] (fa (.int .u64 (f : Int)) (.int .u64 (base : Int)) s26 (.int .u64 (m : Int)) (.int .u64 (base : Int)) (.int .u64 (mb : Int)) (.int .u8 (d : Int)) (.int .u64 (d : Int)) (.int .u64 ((mb : Int) + (d : Int)))) W'.drew) := by
            show G _ _ _ _
            rw [hfa]; dsimp only
            refine hstep _ _ _ _ [2] (by kernel_rfl) (by simp) (allR_cons rfl (fun K hK => ?_) allR_nil)
            · go_simp; rw [hfa] at T11111111100; exact hK _ _ T11111111100.out
          have T11011111000 : Hid (G 4 #[true, true, false, true, true, true, true, true, false, false, false] (fa (.int .u64 (f : Int)) (.int .u64 (base : Int)) s26 (.int .u64 (m : Int)) (.int .u64 (base : Int)) (.int .u64 (mb : Int)) (.int .u8 (d : Int)) (.int .u64 (d : Int)) s32) W'.drew) := by
            show G _ _ _ _
            rw [hfa]; dsimp only
            refine hstep _ _ _ _ [2, 8] (by kernel_rfl) (by simp) (allR_cons rfl (fun K hK => ?_) (allR_cons rfl (fun K hK => ?_) allR_nil))
            · go_simp; rw [hfa] at T11111111000; exact hK _ _ T11111111000.out
            · go_simp; rw [hfa] at T11011111100; exact hK _ _ T11011111100.out
          have T11011110000 : Hid (G 5 #[true, true, false, true, true, true, true, false, false, false, false] (fa (.int .u64 (f : Int)) (.int .u64 (base : Int)) s26 (.int .u64 (m : Int)) (.int .u64 (base : Int)) (.int .u64 (mb : Int)) (.int .u8 (d : Int)) s31 s32) W'.drew) := by
            show G _ _ _ _
            rw [hfa]; dsimp only
            refine hstep _ _ _ _ [2, 7] (by kernel_rfl) (by simp) (allR_cons rfl (fun K hK => ?_) (allR_cons rfl (fun K hK => ?_) allR_nil))
            · go_simp; rw [hfa] at T11111110000; exact hK _ _ T11111110000.out
            · go_simp; rw [hfa] at T11011111000; exact hK _ _ T11011111000.out
          have T11011100000 : Hid (G 6 #[true, true, false, true, true, true, false, false, false, false, false] (fa (.int .u64 (f : Int)) (.int .u64 (base : Int)) s26 (.int .u64 (m : Int)) (.int .u64 (base : Int)) (.int .u64 (mb : Int)) s30 s31 s32) W'.drew) := by
            show G _ _ _ _
            rw [hfa]; dsimp only
            refine hstep _ _ _ _ [2, 6] (by kernel_rfl) (by simp) (allR_cons rfl (fun K hK => ?_) (allR_cons rfl (fun K hK => ?_) allR_nil))
            · go_simp; rw [hfa] at T11111100000; exact hK _ _ T11111100000.out
            · go_simp; rw [hfa] at T11011110000; exact hK _ _ T11011110000.out
          have T11011011000 : Hid (G 5 #[true, true, false, true, true, false, true, true, false, false, false] (fa (.int .u64 (f : Int)) (.int .u64 (base : Int)) s26 (.int .u64 (m : Int)) (.int .u64 (base : Int)) s29 (.int .u8 (d : Int)) (.int .u64 (d : Int)) s32) W'.drew) := by
            show G _ _ _ _
            rw [hfa]; dsimp only
            refine hstep _ _ _ _ [2, 5] (by kernel_rfl) (by simp) (allR_cons rfl (fun K hK => ?_) (allR_cons rfl (fun K hK => ?_) allR_nil))
            · go_simp; rw [hfa] at T11111011000; exact hK _ _ T11111011000.out
            · go_simp; rw [hfa] at T11011111000; exact hK _ _ T11011111000.out
          have T11011010000 : Hid (G 6 #[true, true, false, true, true, false, true, false, false, false, false] (fa (.int .u64 (f : Int)) (.int .u64 (base : Int)) s26 (.int .u64 (m : Int)) (.int .u64 (base : Int)) s29 (.int .u8 (d : Int)) s31 s32) W'.drew) := by
            show G _ _ _ _
            rw [hfa]; dsimp only
            refine hstep _ _ _ _ [2, 5, 7] (by kernel_rfl) (by simp) (allR_cons rfl (fun K hK => ?_) (allR_cons rfl (fun K hK => ?_) (allR_cons rfl (fun K hK => ?_) allR_nil)))
            · go_simp; rw [hfa] at T11111010000; exact hK _ _ T11111010000.out
            · go_simp; rw [hfa] at T11011110000; exact hK _ _ T11011110000.out
            · go_simp; rw [hfa] at T11011011000; exact hK _ _ T11011011000.out
          have T11011000000 : Hid (G 7 #[true, true, false, true, true, false, false, false, false, false, false] (fa (.int .u64 (f : Int)) (.int .u64 (base : Int)) s26 (.int .u64 (m : Int)) (.int .u64 (base : Int)) s29 s30 s31 s32) W'.drew) := by
            show G _ _ _ _
            rw [hfa]; dsimp only
            refine hstep _ _ _ _ [2, 5, 6] (by kernel_rfl) (by simp) (allR_cons rfl (fun K hK => ?_) (allR_cons rfl (fun K hK => ?_) (allR_cons rfl (fun K hK => ?_) allR_nil)))
            · go_simp; rw [hfa] at T11111000000; exact hK _ _ T11111000000.out
            · go_simp; rw [hfa] at T11011100000; exact hK _ _ T11011100000.out
            · go_simp; rw [hfa] at T11011010000; exact hK _ _ T11011010000.out
          have T11010011000 : Hid (G 6 #[true, true, false, true, false, false, true, true, false, false, false] (fa (.int .u64 (f : Int)) (.int .u64 (base : Int)) s26 (.int .u64 (m : Int)) s28 s29 (.int .u8 (d : Int)) (.int .u64 (d : Int)) s32) W'.drew) := by
            show G _ _ _ _
            rw [hfa]; dsimp only
            refine hstep _ _ _ _ [2, 4] (by kernel_rfl) (by simp) (allR_cons rfl (fun K hK => ?_) (allR_cons rfl (fun K hK => ?_) allR_nil))
            · go_simp; rw [hfa] at T11110011000; exact hK _ _ T11110011000.out
            · go_simp; rw [hfa] at T11011011000; exact hK _ _ T11011011000.out
          have T11010010000 : Hid (G 7 #[true, true, false, true, false, false, true, false, false, false, false] (fa (.int .u64 (f : Int)) (.int .u64 (base : Int)) s26 (.int .u64 (m : Int)) s28 s29 (.int .u8 (d : Int)) s31 s32) W'.drew) := by
            show G _ _ _ _
            rw [hfa]; dsimp only
            refine hstep _ _ _ _ [2, 4, 7] (by kernel_rfl) (by simp) (allR_cons rfl (fun K hK => ?_) (allR_cons rfl (fun K hK => ?_) (allR_cons rfl (fun K hK => ?_) allR_nil)))
            · go_simp; rw [hfa] at T11110010000; exact hK _ _ T11110010000.out
            · go_simp; rw [hfa] at T11011010000; exact hK _ _ T11011010000.out
            · go_simp; rw [hfa] at T11010011000; exact hK _ _ T11010011000.out
          have T11010000000 : Hid (G 8 #[true, true, false, true, false, false, false, false, false, false, false] (fa (.int .u64 (f : Int)) (.int .u64 (base : Int)) s26 (.int .u64 (m : Int)) s28 s29 s30 s31 s32) W'.drew) := by
            show G _ _ _ _
            rw [hfa]; dsimp only
            refine hstep _ _ _ _ [2, 4, 6] (by kernel_rfl) (by simp) (allR_cons rfl (fun K hK => ?_) (allR_cons rfl (fun K hK => ?_) (allR_cons rfl (fun K hK => ?_) allR_nil)))
            · go_simp; rw [hfa] at T11110000000; exact hK _ _ T11110000000.out
            · go_simp; rw [hfa] at T11011000000; exact hK _ _ T11011000000.out
            · go_simp; rw [hfa] at T11010010000; exact hK _ _ T11010010000.out
          have T11001011000 : Hid (G 6 #[true, true, false, false, true, false, true, true, false, false, false] (fa (.int .u64 (f : Int)) (.int .u64 (base : Int)) s26 s27 (.int .u64 (base : Int)) s29 (.int .u8 (d : Int)) (.int .u64 (d : Int)) s32) W'.drew) := by
            show G _ _ _ _
            rw [hfa]; dsimp only
            refine hstep _ _ _ _ [2, 3] (by kernel_rfl) (by simp) (allR_cons rfl (fun K hK => ?_) (allR_cons rfl (fun K hK => ?_) allR_nil))
            · go_simp; rw [hfa] at T11101011000; exact hK _ _ T11101011000.out
            · go_simp; rw [hfa] at T11011011000; exact hK _ _ T11011011000.out
          have T11001010000 : Hid (G 7 #[true, true, false, false, true, false, true, false, false, false, false] (fa (.int .u64 (f : Int)) (.int .u64 (base : Int)) s26 s27 (.int .u64 (base : Int)) s29 (.int .u8 (d : Int)) s31 s32) W'.drew) := by
            show G _ _ _ _
            rw [hfa]; dsimp only
            refine hstep _ _ _ _ [2, 3, 7] (by kernel_rfl) (by simp) (allR_cons rfl (fun K hK => ?_) (allR_cons rfl (fun K hK => ?_) (allR_cons rfl (fun K hK => ?_) allR_nil)))
            · go_simp; rw [hfa] at T11101010000; exact hK _ _ T11101010000.out
            · go_simp; rw [hfa] at T11011010000; exact hK _ _ T11011010000.out
            · go_simp; rw [hfa] at T11001011000; exact hK _ _ T11001011000.out
          have T11001000000 : Hid (G 8 #[true, true, false, false, true, false, false, false, false, false, false] (fa (.int .u64 (f : Int)) (.int .u64 (base : Int)) s26 s27 (.int .u64 (base : Int)) s29 s30 s31 s32) W'.drew) := by
            show G _ _ _ _
            rw [hfa]; dsimp only
            refine hstep _ _ _ _ [2, 3, 6] (by kernel_rfl) (by simp) (allR_cons rfl (fun K hK => ?_) (allR_cons rfl (fun K hK => ?_) (allR_cons rfl (fun K hK => ?_) allR_nil)))
            · go_simp; rw [hfa] at T11101000000; exact hK _ _ T11101000000.out
            · go_simp; rw [hfa] at T11011000000; exact hK _ _ T11011000000.out
            · go_simp; rw [hfa] at T11001010000; exact hK _ _ T11001010000.out
          have T11000011000 : Hid (G 7 #[true, true, false, false, false, false, true, true, false, false, false] (fa (.int .u64 (f : Int)) (.int .u64 (base : Int)) s26 s27 s28 s29 (.int .u8 (d : Int)) (.int .u64 (d : Int)) s32) W'.drew) := by
            show G _ _ _ _
            rw [hfa]; dsimp only
            refine hstep _ _ _ _ [2, 3, 4] (by kernel_rfl) (by simp) (allR_cons rfl (fun K hK => ?_) (allR_cons rfl (fun K hK => ?_) (allR_cons rfl (fun K hK => ?_) allR_nil)))
            · go_simp; rw [hfa] at T11100011000; exact hK _ _ T11100011000.out
            · go_simp; rw [hfa] at T11010011000; exact hK _ _ T11010011000.out
            · go_simp; rw [hfa] at T11001011000; exact hK _ _ T11001011000.out
          have T11000010000 : Hid (G 8 #[true, true, false, false, false, false, true, false, false, false, false] (fa (.int .u64 (f : Int)) (.int .u64 (base : Int)) s26 s27 s28 s29 (.int .u8 (d : Int)) s31 s32) W'.drew) := by
            show G _ _ _ _
            rw [hfa]; dsimp only
            refine hstep _ _ _ _ [2, 3, 4, 7] (by kernel_rfl) (by simp) (allR_cons rfl (fun K hK => ?_) (allR_cons rfl (fun K hK => ?_) (allR_cons rfl (fun K hK => ?_) (allR_cons rfl (fun K hK => ?_) allR_nil))))
            · go_simp; rw [hfa] at T11100010000; exact hK _ _ T11100010000.out
            · go_simp; rw [hfa] at T11010010000; exact hK _ _ T11010010000.out
            · go_simp; rw [hfa] at T11001010000; exact hK _ _ T11001010000.out
            · go_simp; rw [hfa] at T11000011000; exact hK _ _ T11000011000.out
          have T11000000000 : Hid (G 9 #[true, true, false, false, false, false, false, false, false, false, false] (fa (.int .u64 (f : Int)) (.int .u64 (base : Int)) s26 s27 s28 s29 s30 s31 s32) W'.drew) := by
            show G _ _ _ _
            rw [hfa]; dsimp only
            refine hstep _ _ _ _ [2, 3, 4, 6] (by kernel_rfl) (by simp) (allR_cons rfl (fun K hK => ?_) (allR_cons rfl (fun K hK => ?_) (allR_cons rfl (fun K hK => ?_) (allR_cons rfl (fun K hK => ?_) allR_nil))))
            · go_simp; rw [hfa] at T11100000000; exact hK _ _ T11100000000.out
            · go_simp; rw [hfa] at T11010000000; exact hK _ _ T11010000000.out
            · go_simp; rw [hfa] at T11001000000; exact hK _ _ T11001000000.out
            · go_simp; rw [hfa] at T11000010000; exact hK _ _ T11000010000.out
          have T10011111100 : Hid (G 4 #[true, false, false, true, true, true, true, true, true, false, false] (fa (.int .u64 (f : Int)) s25 s26 (.int .u64 (m : Int)) (.int .u64 (base : Int)) (.int .u64 (mb : Int)) (.int .u8 (d : Int)) (.int .u64 (d : Int)) (.int .u64 ((mb : Int) + (d : Int)))) W'.drew) := by
            show G _ _ _ _
            rw [hfa]; dsimp only
            refine hstep _ _ _ _ [1] (by kernel_rfl) (by simp) (allR_cons rfl (fun K hK => ?_) allR_nil)
            · go_simp; rw [hfa] at T11011111100; exact hK _ _ T11011111100.out
          have T10011111000 : Hid (G 5 #[true, false, false, true, true, true, true, true, false, false, false] (fa (.int .u64 (f : Int)) s25 s26 (.int .u64 (m : Int)) (.int .u64 (base : Int)) (.int .u64 (mb : Int)) (.int .u8 (d : Int)) (.int .u64 (d : Int)) s32) W'.drew) := by
            show G _ _ _ _
            rw [hfa]; dsimp only
            refine hstep _ _ _ _ [1, 8] (by kernel_rfl) (by simp) (allR_cons rfl (fun K hK => ?_) (allR_cons rfl (fun K hK => ?_) allR_nil))
            · go_simp; rw [hfa] at T11011111000; exact hK _ _ T11011111000.out
            · go_simp; rw [hfa] at T10011111100; exact hK _ _ T10011111100.out
          have T10011110000 : Hid (G 6 #[true, false, false, true, true, true, true, false, false, false, false] (fa (.int .u64 (f : Int)) s25 s26 (.int .u64 (m : Int)) (.int .u64 (base : Int)) (.int .u64 (mb : Int)) (.int .u8 (d : Int)) s31 s32) W'.drew) := by
            show G _ _ _ _
            rw [hfa]; dsimp only
            refine hstep _ _ _ _ [1, 7] (by kernel_rfl) (by simp) (allR_cons rfl (fun K hK => ?_) (allR_cons rfl (fun K hK => ?_) allR_nil))
            · go_simp; rw [hfa] at T11011110000; exact hK _ _ T11011110000.out
            · go_simp; rw [hfa] at T10011111000; exact hK _ _ T10011111000.out
          have T10011100000 : Hid (G 7 #[true, false, false, true, true, true, false, false, false, false, false] (fa (.int .u64 (f : Int)) s25 s26 (.int .u64 (m : Int)) (.int .u64 (base : Int)) (.int .u64 (mb : Int)) s30 s31 s32) W'.drew) := by
            show G _ _ _ _
            rw [hfa]; dsimp only
            refine hstep _ _ _ _ [1, 6] (by kernel_rfl) (by simp) (allR_cons rfl (fun K hK => ?_) (allR_cons rfl (fun K hK => ?_) allR_nil))
            · go_simp; rw [hfa] at T11011100000; exact hK _ _ T11011100000.out
            · go_simp; rw [hfa] at T10011110000; exact hK _ _ T10011110000.out
          have T10011011000 : Hid (G 6 #[true, false, false, true, true, false, true, true, false, false, false] (fa (.int .u64 (f : Int)) s25 s26 (.int .u64 (m : Int)) (.int .u64 (base : Int)) s29 (.int .u8 (d : Int)) (.int .u64 (d : Int)) s32) W'.drew) := by
            show G _ _ _ _
            rw [hfa]; dsimp only
            refine hstep _ _ _ _ [1, 5] (by kernel_rfl) (by simp) (allR_cons rfl (fun K hK => ?_) (allR_cons rfl (fun K hK => ?_) allR_nil))
            · go_simp; rw [hfa] at T11011011000; exact hK _ _ T11011011000.out
            · go_simp; rw [hfa] at T10011111000; exact hK _ _ T10011111000.out
          have T10011010000 : Hid (G 7 #[true, false, false, true, true, false, true, false, false, false, false] (fa (.int .u64 (f : Int)) s25 s26 (.int .u64 (m : Int)) (.int .u64 (base : Int)) s29 (.int .u8 (d : Int)) s31 s32) W'.drew) := by
            show G _ _ _ _
            rw [hfa]; dsimp only
            refine hstep _ _ _ _ [1, 5, 7] (by kernel_rfl) (by simp) (allR_cons rfl (fun K hK => ?_) (allR_cons rfl (fun K hK => ?_) (allR_cons rfl (fun K hK => ?_) allR_nil)))
            · go_simp; rw [hfa] at T11011010000; exact hK _ _ T11011010000.out
            · go_simp; rw [hfa] at T10011110000; exact hK _ _ T10011110000.out
            · go_simp; rw [hfa] at T10011011000; exact hK _ _ T10011011000.out
          have T10011000000 : Hid (G 8 #[true, false, false, true, true, false, false, false, false, false, false] (fa (.int .u64 (f : Int)) s25 s26 (.int .u64 (m : Int)) (.int .u64 (base : Int)) s29 s30 s31 s32) W'.drew) := by
            show G _ _ _ _
            rw [hfa]; dsimp only
            refine hstep _ _ _ _ [1, 5, 6] (by kernel_rfl) (by simp) (allR_cons rfl (fun K hK => ?_) (allR_cons rfl (fun K hK => ?_) (allR_cons rfl (fun K hK => ?_) allR_nil)))
            · go_simp; rw [hfa] at T11011000000; exact hK _ _ T11011000000.out
            · go_simp; rw [hfa] at T10011100000; exact hK _ _ T10011100000.out
            · go_simp; rw [hfa] at T10011010000; exact hK _ _ T10011010000.out
          have T10010011000 : Hid (G 7 #[true, false, false, true, false, false, true, true, false, false, false] (fa (.int .u64 (f : Int)) s25 s26 (.int .u64 (m : Int)) s28 s29 (.int .u8 (d : Int)) (.int .u64 (d : Int)) s32) W'.drew) := by
            show G _ _ _ _
            rw [hfa]; dsimp only
            refine hstep _ _ _ _ [1, 4] (by kernel_rfl) (by simp) (allR_cons rfl (fun K hK => ?_) (allR_cons rfl (fun K hK => ?_) allR_nil))
            · go_simp; rw [hfa] at T11010011000; exact hK _ _ T11010011000.out
            · go_simp; rw [hfa] at T10011011000; exact hK _ _ T10011011000.out
          have T10010010000 : Hid (G 8 #[true, false, false, true, false, false, true, false, false, false, false] (fa (.int .u64 (f : Int)) s25 s26 (.int .u64 (m : Int)) s28 s29 (.int .u8 (d : Int)) s31 s32) W'.drew) := by
            show G _ _ _ _
            rw [hfa]; dsimp only
            refine hstep _ _ _ _ [1, 4, 7] (by kernel_rfl) (by simp) (allR_cons rfl (fun K hK => ?_) (allR_cons rfl (fun K hK => ?_) (allR_cons rfl (fun K hK => ?_) allR_nil)))
            · go_simp; rw [hfa] at T11010010000; exact hK _ _ T11010010000.out
            · go_simp; rw [hfa] at T10011010000; exact hK _ _ T10011010000.out
            · go_simp; rw [hfa] at T10010011000; exact hK _ _ T10010011000.out
          have T10010000000 : Hid (G 9 #[true, false, false, true, false, false, false, false, false, false, false] (fa (.int .u64 (f : Int)) s25 s26 (.int .u64 (m : Int)) s28 s29 s30 s31 s32) W'.drew) := by
            show G _ _ _ _
            rw [hfa]; dsimp only
            refine hstep _ _ _ _ [1, 4, 6] (by kernel_rfl) (by simp) (allR_cons rfl (fun K hK => ?_) (allR_cons rfl (fun K hK => ?_) (allR_cons rfl (fun K hK => ?_) allR_nil)))
            · go_simp; rw [hfa] at T11010000000; exact hK _ _ T11010000000.out
            · go_simp; rw [hfa] at T10011000000; exact hK _ _ T10011000000.out
            · go_simp; rw [hfa] at T10010010000; exact hK _ _ T10010010000.out
          have T10001011000 : Hid (G 7 #[true, false, false, false, true, false, true, true, false, false, false] (fa (.int .u64 (f : Int)) s25 s26 s27 (.int .u64 (base : Int)) s29 (.int .u8 (d : Int)) (.int .u64 (d : Int)) s32) W'.drew) := by
            show G _ _ _ _
            rw [hfa]; dsimp only
            refine hstep _ _ _ _ [1, 3] (by kernel_rfl) (by simp) (allR_cons rfl (fun K hK => ?_) (allR_cons rfl (fun K hK => ?_) allR_nil))
            · go_simp; rw [hfa] at T11001011000; exact hK _ _ T11001011000.out
            · go_simp; rw [hfa] at T10011011000; exact hK _ _ T10011011000.out
          have T10001010000 : Hid (G 8 #[true, false, false, false, true, false, true, false, false, false, false] (fa (.int .u64 (f : Int)) s25 s26 s27 (.int .u64 (base : Int)) s29 (.int .u8 (d : Int)) s31 s32) W'.drew) := by
            show G _ _ _ _
            rw [hfa]; dsimp only
            refine hstep _ _ _ _ [1, 3, 7] (by kernel_rfl) (by simp) (allR_cons rfl (fun K hK => ?_) (allR_cons rfl (fun K hK => ?_) (allR_cons rfl (fun K hK => ?_) allR_nil)))
            · go_simp; rw [hfa] at T11001010000; exact hK _ _ T11001010000.out
            · go_simp; rw [hfa] at T10011010000; exact hK _ _ T10011010000.out
            · go_simp; rw [hfa] at T10001011000; exact hK _ _ T10001011000.out
          have T10001000000 : Hid (G 9 #[true, false, false, false, true, false, false, false, false, false, false] (fa (.int .u64 (f : Int)) s25 s26 s27 (.int .u64 (base : Int)) s29 s30 s31 s32) W'.drew) := by
            show G _ _ _ _
            rw [hfa]; dsimp only
            refine hstep _ _ _ _ [1, 3, 6] (by kernel_rfl) (by simp) (allR_cons rfl (fun K hK => ?_) (allR_cons rfl (fun K hK => ?_) (allR_cons rfl (fun K hK => ?_) allR_nil)))
            · go_simp; rw [hfa] at T11001000000; exact hK _ _ T11001000000.out
            · go_simp; rw [hfa] at T10011000000; exact hK _ _ T10011000000.out
            · go_simp; rw [hfa] at T10001010000; exact hK _ _ T10001010000.out
          have T10000011000 : Hid (G 8 #[true, false, false, false, false, false, true, true, false, false, false] (fa (.int .u64 (f : Int)) s25 s26 s27 s28 s29 (.int .u8 (d : Int)) (.int .u64 (d : Int)) s32) W'.drew) := by
            show G _ _ _ _
            rw [hfa]; dsimp only
            refine hstep _ _ _ _ [1, 3, 4] (by kernel_rfl) (by simp) (allR_cons rfl (fun K hK => ?_) (allR_cons rfl (fun K hK => ?_) (allR_cons rfl (fun K hK => ?_) allR_nil)))
            · go_simp; rw [hfa] at T11000011000; exact hK _ _ T11000011000.out
            · go_simp; rw [hfa] at T10010011000; exact hK _ _ T10010011000.out
            · go_simp; rw [hfa] at T10001011000; exact hK _ _ T10001011000.out
          have T10000010000 : Hid (G 9 #[true, false, false, false, false, false, true, false, false, false, false] (fa (.int .u64 (f : Int)) s25 s26 s27 s28 s29 (.int .u8 (d : Int)) s31 s32) W'.drew) := by
            show G _ _ _ _
            rw [hfa]; dsimp only
            refine hstep _ _ _ _ [1, 3, 4, 7] (by kernel_rfl) (by simp) (allR_cons rfl (fun K hK => ?_) (allR_cons rfl (fun K hK => ?_) (allR_cons rfl (fun K hK => ?_) (allR_cons rfl (fun K hK => ?_) allR_nil))))
            · go_simp; rw [hfa] at T11000010000; exact hK _ _ T11000010000.out
            · go_simp; rw [hfa] at T10010010000; exact hK _ _ T10010010000.out
            · go_simp; rw [hfa] at T10001010000; exact hK _ _ T10001010000.out
            · go_simp; rw [hfa] at T10000011000; exact hK _ _ T10000011000.out
          have T10000000000 : Hid (G 10 #[true, false, false, false, false, false, false, false, false, false, false] (fa (.int .u64 (f : Int)) s25 s26 s27 s28 s29 s30 s31 s32) W'.drew) := by
            show G _ _ _ _
            rw [hfa]; dsimp only
            refine hstep _ _ _ _ [1, 3, 4, 6] (by kernel_rfl) (by simp) (allR_cons rfl (fun K hK => ?_) (allR_cons rfl (fun K hK => ?_) (allR_cons rfl (fun K hK => ?_) (allR_cons rfl (fun K hK => ?_) allR_nil))))
            · go_simp; rw [hfa] at T11000000000; exact hK _ _ T11000000000.out
            · go_simp; rw [hfa] at T10010000000; exact hK _ _ T10010000000.out
            · go_simp; rw [hfa] at T10001000000; exact hK _ _ T10001000000.out
            · go_simp; rw [hfa] at T10000010000; exact hK _ _ T10000010000.out
          have T01011111100 : Hid (G 4 #[false, true, false, true, true, true, true, true, true, false, false] (fa s24 (.int .u64 (base : Int)) s26 (.int .u64 (m : Int)) (.int .u64 (base : Int)) (.int .u64 (mb : Int)) (.int .u8 (d : Int)) (.int .u64 (d : Int)) (.int .u64 ((mb : Int) + (d : Int)))) W'.drew) := by
            show G _ _ _ _
            rw [hfa]; dsimp only
            refine hstep _ _ _ _ [0] (by kernel_rfl) (by simp) (allR_cons rfl (fun K hK => ?_) allR_nil)
            · go_simp; rw [hfa] at T11011111100; exact hK _ _ T11011111100.out
          have T01011111000 : Hid (G 5 #[false, true, false, true, true, true, true, true, false, false, false] (fa s24 (.int .u64 (base : Int)) s26 (.int .u64 (m : Int)) (.int .u64 (base : Int)) (.int .u64 (mb : Int)) (.int .u8 (d : Int)) (.int .u64 (d : Int)) s32) W'.drew) := by
            show G _ _ _ _
            rw [hfa]; dsimp only
            refine hstep _ _ _ _ [0, 8] (by kernel_rfl) (by simp) (allR_cons rfl (fun K hK => ?_) (allR_cons rfl (fun K hK => ?_) allR_nil))
            · go_simp; rw [hfa] at T11011111000; exact hK _ _ T11011111000.out
            · go_simp; rw [hfa] at T01011111100; exact hK _ _ T01011111100.out
          have T01011110000 : Hid (G 6 #[false, true, false, true, true, true, true, false, false, false, false] (fa s24 (.int .u64 (base : Int)) s26 (.int .u64 (m : Int)) (.int .u64 (base : Int)) (.int .u64 (mb : Int)) (.int .u8 (d : Int)) s31 s32) W'.drew) := by
            show G _ _ _ _
            rw [hfa]; dsimp only
            refine hstep _ _ _ _ [0, 7] (by kernel_rfl) (by simp) (allR_cons rfl (fun K hK => ?_) (allR_cons rfl (fun K hK => ?_) allR_nil))
            · go_simp; rw [hfa] at T11011110000; exact hK _ _ T11011110000.out
            · go_simp; rw [hfa] at T01011111000; exact hK _ _ T01011111000.out
          have T01011100000 : Hid (G 7 #[false, true, false, true, true, true, false, false, false, false, false] (fa s24 (.int .u64 (base : Int)) s26 (.int .u64 (m : Int)) (.int .u64 (base : Int)) (.int .u64 (mb : Int)) s30 s31 s32) W'.drew) := by
            show G _ _ _ _
            rw [hfa]; dsimp only
            refine hstep _ _ _ _ [0, 6] (by kernel_rfl) (by simp) (allR_cons rfl (fun K hK => ?_) (allR_cons rfl (fun K hK => ?_) allR_nil))
            · go_simp; rw [hfa] at T11011100000; exact hK _ _ T11011100000.out
            · go_simp; rw [hfa] at T01011110000; exact hK _ _ T01011110000.out
          have T01011011000 : Hid (G 6 #[false, true, false, true, true, false, true, true, false, false, false] (fa s24 (.int .u64 (base : Int)) s26 (.int .u64 (m : Int)) (.int .u64 (base : Int)) s29 (.int .u8 (d : Int)) (.int .u64 (d : Int)) s32) W'.drew) := by
            show G _ _ _ _
            rw [hfa]; dsimp only
            refine hstep _ _ _ _ [0, 5] (by kernel_rfl) (by simp) (allR_cons rfl (fun K hK => ?_) (allR_cons rfl (fun K hK => ?_) allR_nil))
            · go_simp; rw [hfa] at T11011011000; exact hK _ _ T11011011000.out
            · go_simp; rw [hfa] at T01011111000; exact hK _ _ T01011111000.out
          have T01011010000 : Hid (G 7 #[false, true, false, true, true, false, true, false, false, false, false] (fa s24 (.int .u64 (base : Int)) s26 (.int .u64 (m : Int)) (.int .u64 (base : Int)) s29 (.int .u8 (d : Int)) s31 s32) W'.drew) := by
            show G _ _ _ _
            rw [hfa]; dsimp only
            refine hstep _ _ _ _ [0, 5, 7] (by kernel_rfl) (by simp) (allR_cons rfl (fun K hK => ?_) (allR_cons rfl (fun K hK => ?_) (allR_cons rfl (fun K hK => ?_) allR_nil)))
            · go_simp; rw [hfa] at T11011010000; exact hK _ _ T11011010000.out
            · go_simp; rw [hfa] at T01011110000; exact hK _ _ T01011110000.out
            · go_simp; rw [hfa] at T01011011000; exact hK _ _ T01011011000.out
          have T01011000000 : Hid (G 8 #[false, true, false, true, true, false, false, false, false, false, false] (fa s24 (.int .u64 (base : Int)) s26 (.int .u64 (m : Int)) (.int .u64 (base : Int)) s29 s30 s31 s32) W'.drew) := by
            show G _ _ _ _
            rw [hfa]; dsimp only
            refine hstep _ _ _ _ [0, 5, 6] (by kernel_rfl) (by simp) (allR_cons rfl (fun K hK => ?_) (allR_cons rfl (fun K hK => ?_) (allR_cons rfl (fun K hK => ?_) allR_nil)))
            · go_simp; rw [hfa] at T11011000000; exact hK _ _ T11011000000.out
            · go_simp; rw [hfa] at T01011100000; exact hK _ _ T01011100000.out
            · go_simp; rw [hfa] at T01011010000; exact hK _ _ T01011010000.out
          have T01010011000 : Hid (G 7 #[false, true, false, true, false, false, true, true, false, false, false] (fa s24 (.int .u64 (base : Int)) s26 (.int .u64 (m : Int)) s28 s29 (.int .u8 (d : Int)) (.int .u64 (d : Int)) s32) W'.drew) := by
            show G _ _ _ _
            rw [hfa]; dsimp only
            refine hstep _ _ _ _ [0, 4] (by kernel_rfl) (by simp) (allR_cons rfl (fun K hK => ?_) (allR_cons rfl (fun K hK => ?_) allR_nil))
            · go_simp; rw [hfa] at T11010011000; exact hK _ _ T11010011000.out
            · go_simp; rw [hfa] at T01011011000; exact hK _ _ T01011011000.out
          have T01010010000 : Hid (G 8 #[false, true, false, true, false, false, true, false, false, false, false] (fa s24 (.int .u64 (base : Int)) s26 (.int .u64 (m : Int)) s28 s29 (.int .u8 (d : Int)) s31 s32) W'.drew) := by
            show G _ _ _ _
            rw [hfa]; dsimp only
            refine hstep _ _ _ _ [0, 4, 7] (by kernel_rfl) (by simp) (allR_cons rfl (fun K hK => ?_) (allR_cons rfl (fun K hK => ?_) (allR_cons rfl (fun K hK => ?_) allR_nil)))
            · go_simp; rw [hfa] at T11010010000; exact hK _ _ T11010010000.out
            · go_simp; rw [hfa] at T01011010000; exact hK _ _ T01011010000.out
            · go_simp; rw [hfa] at T01010011000; exact hK _ _ T01010011000.out
          have T01010000000 : Hid (G 9 #[false, true, false, true, false, false, false, false, false, false, false] (fa s24 (.int .u64 (base : Int)) s26 (.int .u64 (m : Int)) s28 s29 s30 s31 s32) W'.drew) := by
            show G _ _ _ _
            rw [hfa]; dsimp only
            refine hstep _ _ _ _ [0, 4, 6] (by kernel_rfl) (by simp) (allR_cons rfl (fun K hK => ?_) (allR_cons rfl (fun K hK => ?_) (allR_cons rfl (fun K hK => ?_) allR_nil)))
            · go_simp; rw [hfa] at T11010000000; exact hK _ _ T11010000000.out
            · go_simp; rw [hfa] at T01011000000; exact hK _ _ T01011000000.out
            · go_simp; rw [hfa] at T01010010000; exact hK _ _ T01010010000.out
          have T01001011000 : Hid (G 7 #[false, true, false, false, true, false, true, true, false, false, false] (fa s24 (.int .u64 (base : Int)) s26 s27 (.int .u64 (base : Int)) s29 (.int .u8 (d : Int)) (.int .u64 (d : Int)) s32) W'.drew) := by
            show G _ _ _ _
            rw [hfa]; dsimp only
            refine hstep _ _ _ _ [0, 3] (by kernel_rfl) (by simp) (allR_cons rfl (fun K hK => ?_) (allR_cons rfl (fun K hK => ?_) allR_nil))
            · go_simp; rw [hfa] at T11001011000; exact hK _ _ T11001011000.out
            · go_simp; rw [hfa] at T01011011000; exact hK _ _ T01011011000.out
          have T01001010000 : Hid (G 8 #[false, true, false, false, true, false, true, false, false, false, false] (fa s24 (.int .u64 (base : Int)) s26 s27 (.int .u64 (base : Int)) s29 (.int .u8 (d : Int)) s31 s32) W'.drew) := by
            show G _ _ _ _
            rw [hfa]; dsimp only
            refine hstep _ _ _ _ [0, 3, 7] (by kernel_rfl) (by simp) (allR_cons rfl (fun K hK => ?_) (allR_cons rfl (fun K hK => ?_) (allR_cons rfl (fun K hK => ?_) allR_nil)))
            · go_simp; rw [hfa] at T11001010000; exact hK _ _ T11001010000.out
            · go_simp; rw [hfa] at T01011010000; exact hK _ _ T01011010000.out
            · go_simp; rw [hfa] at T01001011000; exact hK _ _ T01001011000.out
          have T01001000000 : Hid (G 9 #[false, true, false, false, true, false, false, false, false, false, false] (fa s24 (.int .u64 (base : Int)) s26 s27 (.int .u64 (base : Int)) s29 s30 s31 s32) W'.drew) := by
            show G _ _ _ _
            rw [hfa]; dsimp only
            refine hstep _ _ _ _ [0, 3, 6] (by kernel_rfl) (by simp) (allR_cons rfl (fun K hK => ?_) (allR_cons rfl (fun K hK => ?_) (allR_cons rfl (fun K hK => ?_) allR_nil)))
            · go_simp; rw [hfa] at T11001000000; exact hK _ _ T11001000000.out
            · go_simp; rw [hfa] at T01011000000; exact hK _ _ T01011000000.out
            · go_simp; rw [hfa] at T01001010000; exact hK _ _ T01001010000.out
          have T01000011000 : Hid (G 8 #[false, true, false, false, false, false, true, true, false, false, false] (fa s24 (.int .u64 (base : Int)) s26 s27 s28 s29 (.int .u8 (d : Int)) (.int .u64 (d : Int)) s32) W'.drew) := by
            show G _ _ _ _
            rw [hfa]; dsimp only
            refine hstep _ _ _ _ [0, 3, 4] (by kernel_rfl) (by simp) (allR_cons rfl (fun K hK => ?_) (allR_cons rfl (fun K hK => ?_) (allR_cons rfl (fun K hK => ?_) allR_nil)))
            · go_simp; rw [hfa] at T11000011000; exact hK _ _ T11000011000.out
            · go_simp; rw [hfa] at T01010011000; exact hK _ _ T01010011000.out
            · go_simp; rw [hfa] at T01001011000; exact hK _ _ T01001011000.out
          have T01000010000 : Hid (G 9 #[false, true, false, false, false, false, true, false, false, false, false] (fa s24 (.int .u64 (base : Int)) s26 s27 s28 s29 (.int .u8 (d : Int)) s31 s32) W'.drew) := by
            show G _ _ _ _
            rw [hfa]; dsimp only
            refine hstep _ _ _ _ [0, 3, 4, 7] (by kernel_rfl) (by simp) (allR_cons rfl (fun K hK => ?_) (allR_cons rfl (fun K hK => ?_) (allR_cons rfl (fun K hK => ?_) (allR_cons rfl (fun K hK => ?_) allR_nil))))
            · go_simp; rw [hfa] at T11000010000; exact hK _ _ T11000010000.out
            · go_simp; rw [hfa] at T01010010000; exact hK _ _ T01010010000.out
            · go_simp; rw [hfa] at T01001010000; exact hK _ _ T01001010000.out
            · go_simp; rw [hfa] at T01000011000; exact hK _ _ T01000011000.out
          have T01000000000 : Hid (G 10 #[false, true, false, false, false, false, false, false, false, false, false] (fa s24 (.int .u64 (base : Int)) s26 s27 s28 s29 s30 s31 s32) W'.drew) := by
            show G _ _ _ _
            rw [hfa]; dsimp only
            refine hstep _ _ _ _ [0, 3, 4, 6] (by kernel_rfl) (by simp) (allR_cons rfl (fun K hK => ?_) (allR_cons rfl (fun K hK => ?_) (allR_cons rfl (fun K hK => ?_) (allR_cons rfl (fun K hK => ?_) allR_nil))))
            · go_simp; rw [hfa] at T11000000000; exact hK _ _ T11000000000.out
            · go_simp; rw [hfa] at T01010000000; exact hK _ _ T01010000000.out
            · go_simp; rw [hfa] at T01001000000; exact hK _ _ T01001000000.out
            · go_simp; rw [hfa] at T01000010000; exact hK _ _ T01000010000.out
          have T00011111100 : Hid (G 5 #[false, false, false, true, true, true, true, true, true, false, false] (fa s24 s25 s26 (.int .u64 (m : Int)) (.int .u64 (base : Int)) (.int .u64 (mb : Int)) (.int .u8 (d : Int)) (.int .u64 (d : Int)) (.int .u64 ((mb : Int) + (d : Int)))) W'.drew) := by
            show G _ _ _ _
            rw [hfa]; dsimp only
            refine hstep _ _ _ _ [0, 1] (by kernel_rfl) (by simp) (allR_cons rfl (fun K hK => ?_) (allR_cons rfl (fun K hK => ?_) allR_nil))
            · go_simp; rw [hfa] at T10011111100; exact hK _ _ T10011111100.out
            · go_simp; rw [hfa] at T01011111100; exact hK _ _ T01011111100.out
          have T00011111000 : Hid (G 6 #[false, false, false, true, true, true, true, true, false, false, false] (fa s24 s25 s26 (.int .u64 (m : Int)) (.int .u64 (base : Int)) (.int .u64 (mb : Int)) (.int .u8 (d : Int)) (.int .u64 (d : Int)) s32) W'.drew) := by
            show G _ _ _ _
            rw [hfa]; dsimp only
            refine hstep _ _ _ _ [0, 1, 8] (by kernel_rfl) (by simp) (allR_cons rfl (fun K hK => ?_) (allR_cons rfl (fun K hK => ?_) (allR_cons rfl (fun K hK => ?_) allR_nil)))
            · go_simp; rw [hfa] at T10011111000; exact hK _ _ T10011111000.out
            · go_simp; rw [hfa] at T01011111000; exact hK _ _ T01011111000.out
            · go_simp; rw [hfa] at T00011111100; exact hK _ _ T00011111100.out
          have T00011110000 : Hid (G 7 #[false, false, false, true, true, true, true, false, false, false, false] (fa s24 s25 s26 (.int .u64 (m : Int)) (.int .u64 (base : Int)) (.int .u64 (mb : Int)) (.int .u8 (d : Int)) s31 s32) W'.drew) := by
            show G _ _ _ _
            rw [hfa]; dsimp only
            refine hstep _ _ _ _ [0, 1, 7] (by kernel_rfl) (by simp) (allR_cons rfl (fun K hK => ?_) (allR_cons rfl (fun K hK => ?_) (allR_cons rfl (fun K hK => ?_) allR_nil)))
            · go_simp; rw [hfa] at T10011110000; exact hK _ _ T10011110000.out
            · go_simp; rw [hfa] at T01011110000; exact hK _ _ T01011110000.out
            · go_simp; rw [hfa] at T00011111000; exact hK _ _ T00011111000.out
          have T00011100000 : Hid (G 8 #[false, false, false, true, true, true, false, false, false, false, false] (fa s24 s25 s26 (.int .u64 (m : Int)) (.int .u64 (base : Int)) (.int .u64 (mb : Int)) s30 s31 s32) W'.drew) := by
            show G _ _ _ _
            rw [hfa]; dsimp only
            refine hstep _ _ _ _ [0, 1, 6] (by kernel_rfl) (by simp) (allR_cons rfl (fun K hK => ?_) (allR_cons rfl (fun K hK => ?_) (allR_cons rfl (fun K hK => ?_) allR_nil)))
            · go_simp; rw [hfa] at T10011100000; exact hK _ _ T10011100000.out
            · go_simp; rw [hfa] at T01011100000; exact hK _ _ T01011100000.out
            · go_simp; rw [hfa] at T00011110000; exact hK _ _ T00011110000.out
          have T00011011000 : Hid (G 7 #[false, false, false, true, true, false, true, true, false, false, false] (fa s24 s25 s26 (.int .u64 (m : Int)) (.int .u64 (base : Int)) s29 (.int .u8 (d : Int)) (.int .u64 (d : Int)) s32) W'.drew) := by
            show G _ _ _ _
            rw [hfa]; dsimp only
            refine hstep _ _ _ _ [0, 1, 5] (by kernel_rfl) (by simp) (allR_cons rfl (fun K hK => ?_) (allR_cons rfl (fun K hK => ?_) (allR_cons rfl (fun K hK => ?_) allR_nil)))
            · go_simp; rw [hfa] at T10011011000; exact hK _ _ T10011011000.out
            · go_simp; rw [hfa] at T01011011000; exact hK _ _ T01011011000.out
            · go_simp; rw [hfa] at T00011111000; exact hK _ _ T00011111000.out
          have T00011010000 : Hid (G 8 #[false, false, false, true, true, false, true, false, false, false, false] (fa s24 s25 s26 (.int .u64 (m : Int)) (.int .u64 (base : Int)) s29 (.int .u8 (d : Int)) s31 s32) W'.drew) := by
            show G _ _ _ _
            rw [hfa]; dsimp only
            refine hstep _ _ _ _ [0, 1, 5, 7] (by kernel_rfl) (by simp) (allR_cons rfl (fun K hK => ?_) (allR_cons rfl (fun K hK => ?_) (allR_cons rfl (fun K hK => ?_) (allR_cons rfl (fun K hK => ?_) allR_nil))))
            · go_simp; rw [hfa] at T10011010000; exact hK _ _ T10011010000.out
            · go_simp; rw [hfa] at T01011010000; exact hK _ _ T01011010000.out
            · go_simp; rw [hfa] at T00011110000; exact hK _ _ T00011110000.out
            · go_simp; rw [hfa] at T00011011000; exact hK _ _ T00011011000.out
          have T00011000000 : Hid (G 9 #[false, false, false, true, true, false, false, false, false, false, false] (fa s24 s25 s26 (.int .u64 (m : Int)) (.int .u64 (base : Int)) s29 s30 s31 s32) W'.drew) := by
            show G _ _ _ _
            rw [hfa]; dsimp only
            refine hstep _ _ _ _ [0, 1, 5, 6] (by kernel_rfl) (by simp) (allR_cons rfl (fun K hK => ?_) (allR_cons rfl (fun K hK => ?_) (allR_cons rfl (fun K hK => ?_) (allR_cons rfl (fun K hK => ?_) allR_nil))))
            · go_simp; rw [hfa] at T10011000000; exact hK _ _ T10011000000.out
            · go_simp; rw [hfa] at T01011000000; exact hK _ _ T01011000000.out
            · go_simp; rw [hfa] at T00011100000; exact hK _ _ T00011100000.out
            · go_simp; rw [hfa] at T00011010000; exact hK _ _ T00011010000.out
          have T00010011000 : Hid (G 8 #[false, false, false, true, false, false, true, true, false, false, false] (fa s24 s25 s26 (.int .u64 (m : Int)) s28 s29 (.int .u8 (d : Int)) (.int .u64 (d : Int)) s32) W'.drew) := by
            show G _ _ _ _
            rw [hfa]; dsimp only
            refine hstep _ _ _ _ [0, 1, 4] (by kernel_rfl) (by simp) (allR_cons rfl (fun K hK => ?_) (allR_cons rfl (fun K hK => ?_) (allR_cons rfl (fun K hK => ?_) allR_nil)))
            · go_simp; rw [hfa] at T10010011000; exact hK _ _ T10010011000.out
            · go_simp; rw [hfa] at T01010011000; exact hK _ _ T01010011000.out
            · go_simp; rw [hfa] at T00011011000; exact hK _ _ T00011011000.out
          have T00010010000 : Hid (G 9 #[false, false, false, true, false, false, true, false, false, false, false] (fa s24 s25 s26 (.int .u64 (m : Int)) s28 s29 (.int .u8 (d : Int)) s31 s32) W'.drew) := by
            show G _ _ _ _
            rw [hfa]; dsimp only
            refine hstep _ _ _ _ [0, 1, 4, 7] (by kernel_rfl) (by simp) (allR_cons rfl (fun K hK => ?_) (allR_cons rfl (fun K hK => ?_) (allR_cons rfl (fun K hK => ?_) (allR_cons rfl (fun K hK => ?_) allR_nil))))
            · go_simp; rw [hfa] at T10010010000; exact hK _ _ T10010010000.out
            · go_simp; rw [hfa] at T01010010000; exact hK _ _ T01010010000.out
            · go_simp; rw [hfa] at T00011010000; exact hK _ _ T00011010000.out
            · go_simp; rw [hfa] at T00010011000; exact hK _ _ T00010011000.out
          have T00010000000 : Hid (G 10 #[false, false, false, true, false, false, false, false, false, false, false] (fa s24 s25 s26 (.int .u64 (m : Int)) s28 s29 s30 s31 s32) W'.drew) := by
            show G _ _ _ _
            rw [hfa]; dsimp only
            refine hstep _ _ _ _ [0, 1, 4, 6] (by kernel_rfl) (by simp) (allR_cons rfl (fun K hK => ?_) (allR_cons rfl (fun K hK => ?_) (allR_cons rfl (fun K hK => ?_) (allR_cons rfl (fun K hK => ?_) allR_nil))))
            · go_simp; rw [hfa] at T10010000000; exact hK _ _ T10010000000.out
            · go_simp; rw [hfa] at T01010000000; exact hK _ _ T01010000000.out
            · go_simp; rw [hfa] at T00011000000; exact hK _ _ T00011000000.out
            · go_simp; rw [hfa] at T00010010000; exact hK _ _ T00010010000.out
          have T00001011000 : Hid (G 8 #[false, false, false, false, true, false, true, true, false, false, false] (fa s24 s25 s26 s27 (.int .u64 (base : Int)) s29 (.int .u8 (d : Int)) (.int .u64 (d : Int)) s32) W'.drew) := by
            show G _ _ _ _
            rw [hfa]; dsimp only
            refine hstep _ _ _ _ [0, 1, 3] (by kernel_rfl) (by simp) (allR_cons rfl (fun K hK => ?_) (allR_cons rfl (fun K hK => ?_) (allR_cons rfl (fun K hK => ?_) allR_nil)))
            · go_simp; rw [hfa] at T10001011000; exact hK _ _ T10001011000.out
            · go_simp; rw [hfa] at T01001011000; exact hK _ _ T01001011000.out
            · go_simp; rw [hfa] at T00011011000; exact hK _ _ T00011011000.out
          have T00001010000 : Hid (G 9 #[false, false, false, false, true, false, true, false, false, false, false] (fa s24 s25 s26 s27 (.int .u64 (base : Int)) s29 (.int .u8 (d : Int)) s31 s32) W'.drew) := by
            show G _ _ _ _
            rw [hfa]; dsimp only
            refine hstep _ _ _ _ [0, 1, 3, 7] (by kernel_rfl) (by simp) (allR_cons rfl (fun K hK => ?_) (allR_cons rfl (fun K hK => ?_) (allR_cons rfl (fun K hK => ?_) (allR_cons rfl (fun K hK => ?_) allR_nil))))
            · go_simp; rw [hfa] at T10001010000; exact hK _ _ T10001010000.out
            · go_simp; rw [hfa] at T01001010000; exact hK _ _ T01001010000.out
            · go_simp; rw [hfa] at T00011010000; exact hK _ _ T00011010000.out
            · go_simp; rw [hfa] at T00001011000; exact hK _ _ T00001011000.out
          have T00001000000 : Hid (G 10 #[false, false, false, false, true, false, false, false, false, false, false] (fa s24 s25 s26 s27 (.int .u64 (base : Int)) s29 s30 s31 s32) W'.drew) := by
            show G _ _ _ _
            rw [hfa]; dsimp only
            refine hstep _ _ _ _ [0, 1, 3, 6] (by kernel_rfl) (by simp) (allR_cons rfl (fun K hK => ?_) (allR_cons rfl (fun K hK => ?_) (allR_cons rfl (fun K hK => ?_) (allR_cons rfl (fun K hK => ?_) allR_nil))))
            · go_simp; rw [hfa] at T10001000000; exact hK _ _ T10001000000.out
            · go_simp; rw [hfa] at T01001000000; exact hK _ _ T01001000000.out
            · go_simp; rw [hfa] at T00011000000; exact hK _ _ T00011000000.out
            · go_simp; rw [hfa] at T00001010000; exact hK _ _ T00001010000.out
          have T00000011000 : Hid (G 9 #[false, false, false, false, false, false, true, true, false, false, false] (fa s24 s25 s26 s27 s28 s29 (.int .u8 (d : Int)) (.int .u64 (d : Int)) s32) W'.drew) := by
            show G _ _ _ _
            rw [hfa]; dsimp only
            refine hstep _ _ _ _ [0, 1, 3, 4] (by kernel_rfl) (by simp) (allR_cons rfl (fun K hK => ?_) (allR_cons rfl (fun K hK => ?_) (allR_cons rfl (fun K hK => ?_) (allR_cons rfl (fun K hK => ?_) allR_nil))))
            · go_simp; rw [hfa] at T10000011000; exact hK _ _ T10000011000.out
            · go_simp; rw [hfa] at T01000011000; exact hK _ _ T01000011000.out
            · go_simp; rw [hfa] at T00010011000; exact hK _ _ T00010011000.out
            · go_simp; rw [hfa] at T00001011000; exact hK _ _ T00001011000.out
          have T00000010000 : Hid (G 10 #[false, false, false, false, false, false, true, false, false, false, false] (fa s24 s25 s26 s27 s28 s29 (.int .u8 (d : Int)) s31 s32) W'.drew) := by
            show G _ _ _ _
            rw [hfa]; dsimp only
            refine hstep _ _ _ _ [0, 1, 3, 4, 7] (by kernel_rfl) (by simp) (allR_cons rfl (fun K hK => ?_) (allR_cons rfl (fun K hK => ?_) (allR_cons rfl (fun K hK => ?_) (allR_cons rfl (fun K hK => ?_) (allR_cons rfl (fun K hK => ?_) allR_nil)))))
            · go_simp; rw [hfa] at T10000010000; exact hK _ _ T10000010000.out
            · go_simp; rw [hfa] at T01000010000; exact hK _ _ T01000010000.out
            · go_simp; rw [hfa] at T00010010000; exact hK _ _ T00010010000.out
            · go_simp; rw [hfa] at T00001010000; exact hK _ _ T00001010000.out
            · go_simp; rw [hfa] at T00000011000; exact hK _ _ T00000011000.out
          have T00000000000 : Hid (G 11 #[false, false, false, false, false, false, false, false, false, false, false] (fa s24 s25 s26 s27 s28 s29 s30 s31 s32) W'.drew) := by
            show G _ _ _ _
            rw [hfa]; dsimp only
            refine hstep _ _ _ _ [0, 1, 3, 4, 6] (by kernel_rfl) (by simp) (allR_cons rfl (fun K hK => ?_) (allR_cons rfl (fun K hK => ?_) (allR_cons rfl (fun K hK => ?_) (allR_cons rfl (fun K hK => ?_) (allR_cons rfl (fun K hK => ?_) allR_nil)))))
            · go_simp; rw [hfa] at T10000000000; exact hK _ _ T10000000000.out
            · go_simp; rw [hfa] at T01000000000; exact hK _ _ T01000000000.out
            · go_simp; rw [hfa] at T00010000000; exact hK _ _ T00010000000.out
            · go_simp; rw [hfa] at T00001000000; exact hK _ _ T00001000000.out
            · go_simp; rw [hfa] at T00000010000; exact hK _ _ T00000010000.out
          rw [hfa] at T00000000000
          exact T00000000000.out
        case done =>
          rintro D ys W' hD hys ⟨c7, c8, cI, hB'⟩ hK
          have hyl : ys.length = T.length := by have := congrArg List.length hys; rw [down_len] at this; simpa using this
          rw [hyl] at c7
          rw [came_all hys] at c8
          obtain ⟨hO, hMd, hMc, hMv, hMl⟩ := HM.out
          have hTl := HTL.out
          have TM := times32n (w.heap.size + 1) (.slice pu M.length cu) M (base ^ T.length) (val base T) W' (hO.on hB') (Nat.le_trans bB.lt hB'.size) hMd (pow8 hb (by omega) (by omega)) (by have h5 := val_lt (b := base) (by omega) hdT; have h6 := pow8 (j := T.length) hb (by omega) (by omega); omega) (by omega)
          have HVV : Hid (base ^ T.length * val 1000000000 M + val base T = val base (L.drop 0)) := by
            show _ = _
            rw [hMv, HV.out, val_append, Nat.add_comm]
          have HDs : Hid (∀ w2, Nc W' w2 → (D :: Ds).Nodup ∧ ∀ E, E ∈ D :: Ds → w.heap.size ≤ E ∧ w2.heap[E]? = some (.deferred (some []))) := by
            intro w2 hN
            obtain ⟨hn1, hn2⟩ := HD.out
            refine ⟨List.nodup_cons.2 ⟨fun hmem => ?_, hn1⟩, fun E hE => ?_⟩
            · have h5 := (hn2 D hmem).2
              have h6 := (Array.getElem?_eq_some_iff.1 h5).1
              omega
            · rcases List.mem_cons.1 hE with rfl | hE
              · exact ⟨by have := hBw.size; omega, hN _ _ hK (fun _ _ h => by cases h)⟩
              · obtain ⟨h5, h6⟩ := hn2 E hE
                have h7 := (Array.getElem?_eq_some_iff.1 h6).1
                exact ⟨h5, hN _ _ ((hB'.block E h7).trans h6) (fun _ _ h => by cases h)⟩
          have HBB : Hid (∀ w2, Nc W' w2 → Boxed w2 w.heap.size 69 (.int .u64 (base : Int))) := fun w2 hN => hN _ _ ((hB'.block w.heap.size bB.lt).trans bB) (fun _ _ h => by cases h)
          have HBL : Hid (∀ w2, Below (w.heap.size + 1) W' w2 → Below w.heap.size w w2) := fun w2 h2 => (hBw.trans (hB'.mono hBw.size)).trans (h2.mono (by omega))
          have k7 := c7.cell
          have k8 := c8.cell
          generalize base ^ T.length = f at TM k7 HVV
          generalize val base T = m at TM k8 HVV
          clear c7 c8 cI HM HD hO hMv HV hys hyl hdT hRT hd hI
          gi_wp2_with (first | (refine ⟨trivial, ?_⟩; gi_at_call 70; refine (callsIn_wide.2 TM).mono ?_; rintro e w2 ⟨v2, l2, rfl, hO2, hB2, hd2, hc2, hv2, hl2, hN2⟩; obtain ⟨p2, cap2, rfl, -⟩ := hO2.form; have HQ : Hid _ := And.intro hO2 (And.intro hB2 (And.intro hd2 (And.intro hc2 (And.intro hv2 (And.intro hl2 hN2))))); clear hO2 hB2 hd2 hc2 hv2 hl2 hN2))
          obtain ⟨hO2, hB2, hd2, hc2, hv2, hl2, hN2⟩ := HQ.out
          refine ⟨⟨0, _, l2, D :: Ds, _, _, _, _, _, _, _, _, _, _, _, _, _, _, _, _, _, _, _, _, _, _, _, _, _, _, _, _, _, _, _, _, _, _, by omega, rfl, ⟨hO2, hd2, hc2, hv2.trans HVV.out, by omega⟩, HBB.out _ hN2, HBL.out _ hB2, HDs.out _ hN2⟩, ?_⟩
          simp [slen] <;> omega
        case stop =>
          rintro D c pre W hD hpre h hK
          exact absurd h (by simp)
    · obtain rfl : k = 0 := by omega
      obtain ⟨hO, hMd, hMc, hMv, hMl⟩ := HM.out
      rw [List.drop_zero] at hMv
      have HF : Hid (∀ W', (∀ (k : Nat) (o : Obj), W.heap[k]? = some o → o.isCells = true → W'.heap[k]? = some o) → Own .u32 90 w.heap.size W' (.slice pu M.length cu) M) := by
        intro W' h5
        obtain ⟨g1, g2 | ⟨g, cap', cur, hv, hg, hh, rest⟩⟩ := hO
        · exact ⟨g1, .inl g2⟩
        · exact ⟨g1, .inr ⟨g, cap', cur, hv, by omega, h5 g _ hh rfl, rest⟩⟩
      have HP : Hid (Dg 1000000000 M ∧ Canon M ∧ val 1000000000 M = val base L ∧ M.length ≤ 1000000) := ⟨hMd, hMc, hMv, by omega⟩
      clear hO hMd hMc hMv hMl HM
      gi_wp2
      refine leaves_marks w Ds W HD.out.1 HD.out.2 hBw (fun W' h5 h6 => ?_)
      refine ⟨.slice pu M.length cu, by simp [results, Try.results52, go_sem], _, M, rfl, HF.out W' h5, h6, HP.out⟩

theorem gather_any (p : Option Addr) (cap base : Nat) (L : List Nat) (w : World) (hm : L.length ≤ 5000) (hc : L.length ≤ cap) (hb : base ≤ 16) (hb2 : 2 ≤ base) (hd : Dg base L) (hI : Rd .u8 w p L) :
    Calls Try.prog 52 #[.slice p L.length cap, .int .u64 base] w fun e w' => ∃ v M, e = .returned v ∧ Own .u32 90 w.heap.size w' v M ∧ Below w.heap.size w w' ∧ Dg 1000000000 M ∧ Canon M ∧ val 1000000000 M = val base L ∧ M.length ≤ 1000000 :=
  (callsIn_wide (n := 3)).1 (gather_in 3 (Nat.le_refl _) p cap base L w hm hc hb hb2 hd hI)
end Go.Proofs.Ytpffegkckejpiaa
