/- below: which of two lists is the smaller number. -/
import Derived.Test.YtbckmahmlgjkpaaBack
import Derived.Test.YtbckmahmlgjkpaaPlus
set_option linter.unusedVariables false
set_option linter.unusedSimpArgs false
namespace Go.Proofs.Ytbckmahmlgjkpaa
open Go.RowKit Go.Shelf
attribute [local go_sem] Oper.semAt_some

theorem top_diff {l m : List Nat} (hlen : l.length = m.length) (dl : Dg 10 l) (dm : Dg 10 m) {k : Nat} (hk : k < l.length) (ha : ∀ j, k < j → j < l.length → nAt l j = nAt m j) (hd : nAt l k ≠ nAt m k) :
    decide (val 10 l < val 10 m) = decide (nAt l k < nAt m k) := by
  have e : l.drop (k + 1) = m.drop (k + 1) := by
    apply List.ext_getElem
    · simp [hlen]
    · intro i h1 h2
      simp at h1
      have h3 := ha (k + 1 + i) (by omega) (by omega)
      rw [nAt_get (by omega), nAt_get (by omega)] at h3
      simpa using h3
  have s1 : val 10 l = val 10 (l.take k) + 10 ^ k * nAt l k + 10 ^ (k + 1) * val 10 (l.drop (k + 1)) := by
    have h := congrArg (val 10) (List.take_append_drop (k + 1) l).symm
    rw [val_append, val_take_succ 10 hk, List.length_take, Nat.min_eq_left (by omega)] at h
    exact h
  have s2 : val 10 m = val 10 (m.take k) + 10 ^ k * nAt m k + 10 ^ (k + 1) * val 10 (m.drop (k + 1)) := by
    have h := congrArg (val 10) (List.take_append_drop (k + 1) m).symm
    rw [val_append, val_take_succ 10 (by omega), List.length_take, Nat.min_eq_left (by omega)] at h
    exact h
  have b1 := val_lt (b := 10) (by decide) (dl.take k)
  have b2 := val_lt (b := 10) (by decide) (dm.take k)
  rw [List.length_take, Nat.min_eq_left (by omega)] at b1 b2
  rw [s1, s2, e]
  generalize val 10 (l.take k) = u at *
  generalize val 10 (m.take k) = v at *
  generalize nAt l k = a at *
  generalize nAt m k = b at *
  generalize 10 ^ (k + 1) * val 10 (m.drop (k + 1)) = t
  rw [decide_eq_decide]
  rcases Nat.lt_or_gt_of_ne hd with h | h
  · have := Nat.mul_le_mul_left (10 ^ k) h
    rw [Nat.succ_eq_add_one, Nat.mul_add, Nat.mul_one] at this
    constructor
    · intro _; exact h
    · intro _; omega
  · have := Nat.mul_le_mul_left (10 ^ k) h
    rw [Nat.succ_eq_add_one, Nat.mul_add, Nat.mul_one] at this
    constructor
    · intro _; omega
    · intro _; omega

theorem all_same {l m : List Nat} (hlen : l.length = m.length) (ha : ∀ j, j < l.length → nAt l j = nAt m j) : l = m := by
  apply List.ext_getElem hlen
  intro i h1 h2
  have h3 := ha i h1
  rw [nAt_get h1, nAt_get h2] at h3
  exact h3

theorem shorter_less {l m : List Nat} (dl : Dg 10 l) (cm : Canon m) (h : l.length < m.length) : val 10 l < val 10 m := by
  have h1 := val_lt (b := 10) (by decide) dl
  have h2 := canon_low (b := 10) (by decide) cm (by intro e; rw [e] at h; simp at h)
  have h3 : 10 ^ l.length ≤ 10 ^ (m.length - 1) := Nat.pow_le_pow_right (by decide) (by omega)
  omega

theorem down_prefix : ∀ (n : Nat) (p : List Nat) (x : Nat), p ++ [x] <+: down n → x < n ∧ ∀ j, x < j → j < n → j ∈ p
  | 0, p, x, h => by
    have := h.length_le
    simp [down] at this
  | n + 1, [], x, h => by
    rw [down, List.nil_append, List.cons_prefix_cons] at h
    obtain ⟨rfl, -⟩ := h
    exact ⟨by omega, fun j h1 h2 => by omega⟩
  | n + 1, a :: p, x, h => by
    rw [down, List.cons_append, List.cons_prefix_cons] at h
    obtain ⟨rfl, h⟩ := h
    obtain ⟨h1, h2⟩ := down_prefix a p x h
    refine ⟨by omega, fun j h3 h4 => ?_⟩
    by_cases e : j = a
    · subst e; exact List.mem_cons_self ..
    · exact List.mem_cons_of_mem _ (h2 j h3 (by omega))
theorem down_mem : ∀ (n j : Nat), j < n → j ∈ down n
  | n + 1, j, h => by
    rw [down]
    by_cases e : j = n
    · subst e; exact List.mem_cons_self ..
    · exact List.mem_cons_of_mem _ (down_mem n j (by omega))

set_option maxRecDepth 100000 in
set_option maxHeartbeats 1000000 in
theorem below_len (p q : Option Addr) (cp cq a b : Nat) (w : World) (hne : ((a : Int) != (b : Int)) = true) :
    Calls Try.prog 28 #[.slice p a cp, .slice q b cq] w fun e w' => e = .returned (.bool (decide ((a : Int) < b))) ∧ Below w.heap.size w w' := by
  go_enter Try.func28, Try.ntmps28
  go_wp2
  exact bodyPost_ret (v := .bool (decide ((a : Int) < b))) (by simp [results, Try.results28, go_sem]) rfl ⟨rfl, ((Below.refl _ w).alloc (Nat.le_refl _) _).alloc (by simp) _⟩

/-- The world in which below's loop begins. -/
def bW (w : World) (p q : Option Addr) (n cp cq : Nat) : World := ((w.alloc (.cells #[.slice q n cq] 36)).alloc (.cells #[.bool false] 4)).alloc (.cells #[.slice p n cp] 36)
theorem bW_facts (w : World) (p q : Option Addr) (n cp cq : Nat) : (bW w p q n cp cq).heap.size = w.heap.size + 3 ∧ Boxed (bW w p q n cp cq) w.heap.size 36 (.slice q n cq) ∧ Boxed (bW w p q n cp cq) (w.heap.size + 1) 4 (.bool false) ∧
    Boxed (bW w p q n cp cq) (w.heap.size + 1 + 1) 36 (.slice p n cp) ∧ Below w.heap.size w (bW w p q n cp cq) := by
  have b1 := Boxed.new w 36 (.slice q n cq)
  have b2 := Boxed.new (w.alloc (.cells #[.slice q n cq] 36)) 4 (.bool false)
  have b3 := Boxed.new ((w.alloc (.cells #[.slice q n cq] 36)).alloc (.cells #[.bool false] 4)) 36 (.slice p n cp)
  simp only [World.size_alloc] at b2 b3
  exact ⟨by simp [bW], (b1.alloc _).alloc _, b2.alloc _, b3, (((Below.refl _ w).alloc (Nat.le_refl _) _).alloc (by simp) _).alloc (by simp; omega) _⟩

def BInv (w : World) (q : Option Addr) (cq : Nat) (l m : List Nat) (pre : List (Pl l)) (W : World) : Prop :=
  (∀ x, x ∈ pre → nAt l x.1 = nAt m x.1) ∧ Boxed W w.heap.size 36 (.slice q l.length cq) ∧ Boxed W (w.heap.size + 1) 4 (.bool false) ∧ Below w.heap.size w W
def BOut (w : World) (l m : List Nat) (c : Code) (pre : List (Pl l)) (W : World) : Prop :=
  (∃ b : Bool, (c = .ret ∧ ∃ pre' x, pre = pre' ++ [x] ∧ (∀ y, y ∈ pre' → nAt l y.1 = nAt m y.1) ∧ nAt l x.1 ≠ nAt m x.1 ∧ b = decide (nAt l x.1 < nAt m x.1)) ∧ Boxed W (w.heap.size + 1) 4 (.bool b)) ∧ Below w.heap.size w W
theorem BInv_own (w : World) (q : Option Addr) (cq : Nat) (l m : List Nat) (B : Nat) (hB : w.heap.size ≤ B) : OwnFrom B (BInv w q cq l m) :=
  OwnFrom.and (ownFrom_pure _ _) (OwnFrom.and (Own.from (boxed_own _ _ _) _) (OwnFrom.and (Own.from (boxed_own _ _ _) _) (ownFrom_below (Nat.le_refl _) hB)))
theorem BOut_own (w : World) (l m : List Nat) (c : Code) (B : Nat) (hB : w.heap.size ≤ B) : OwnFrom B (BOut w l m c) := by
  refine OwnFrom.and ?_ (ownFrom_below (Nat.le_refl _) hB)
  rintro s X Y row ⟨b, h1, h2⟩ hg hrow
  exact ⟨b, h1, (Own.from (boxed_own (w.heap.size + 1) 4 (fun _ : Unit => .bool b)) B) () X Y row h2 hg hrow⟩

set_option maxRecDepth 100000 in
set_option maxHeartbeats 2000000 in
theorem below_in (n : Nat) (hn : 3 ≤ n) (p q : Option Addr) (cp cq : Nat) (l m : List Nat) (w : World) (hlm : l.length = m.length) (hm : l.length ≤ 10000000) (dl : Dg 10 l) (dm : Dg 10 m) (hp : Rd .u8 w p l) (hq : Rd .u8 w q m) :
    CallsIn Fence.wide n Try.prog 28 #[.slice p l.length cp, .slice q l.length cq] w fun e w' => e = .returned (.bool (decide (val 10 l < val 10 m))) ∧ Below w.heap.size w w' := by
  have h1 : 1 ≤ n := by omega
  have HLM : Hid (l.length = m.length) := hlm
  clear hlm
  refine callsIn_of_wp_marks Try.func28 rfl trivial ?_ rfl
  simp only [Try.ntmps28, List.size_toArray, List.length_cons, List.length_nil, Nat.reduceAdd, Nat.reduceSub, Array.replicate_succ, Array.replicate_zero, List.push_toArray, List.append_toArray, List.nil_append, List.cons_append]
  gi_wp2_with (first | (refine ⟨trivial, ?_⟩; gi_at_call 33; refine (backward_in _ _ _ _ _).mono ?_; rintro e w' ⟨rfl, rfl⟩))
  change Code.wpIn _ _ _ _ _ _ (bW w p q l.length cp cq)
  obtain ⟨hsz, bO, bR, bB, hbw⟩ := bW_facts w p q l.length cp cq
  generalize bW w p q l.length cp cq = W0 at hsz bO bR bB hbw ⊢
  refine wpIn_rangeFunc_ownG rfl h1 (gf := 38) (lb := #[.pointer (some ⟨w.heap.size + 1 + 1, 0, none⟩)]) rfl trivial (enters_of Try.func38 (by kernel_rfl) rfl)
    (back_stops (n - 1) (by omega) (w.heap.size + 1 + 1) w.heap.size cp p l (by omega) W0 (by omega) (by omega) bB.cell (hp.on hbw) hp.lt)
    (fun h k => Kp.trans h k) (hKb1 (by omega) (by omega)) (Below.refl _ _) (fun _ => rfl)
    (BInv w q cq l m) (BOut w l m) (BInv_own w q cq l m _ (by omega)) (fun c => BOut_own w l m c _ (by omega))
    ⟨(fun x hx => by cases hx), bO, bR, hbw⟩
    (fun x => { tmps := #[.slice p l.length cp, .slice q l.length cq, undef, .pointer (some ⟨w.heap.size, 0, none⟩), .pointer (some ⟨w.heap.size + 1, 0, none⟩), .int .i64 (x.1 : Nat), .int .u8 (nAt l x.1 : Nat), .slice p l.length cp, .int .i64 l.length, .slice q l.length cq, .int .i64 l.length, .bool false, undef, undef, undef, undef, undef, .slice p l.length cp, .func (.func 38) #[] #[.pointer (some ⟨w.heap.size + 1 + 1, 0, none⟩)], .int .i64 (x.1 : Nat), .int .u8 (nAt l x.1 : Nat), undef, undef, undef, undef, undef, undef, undef, undef, undef, undef, undef, undef], defers := [] }) ?assign ?body ?done ?stop
  case assign =>
    intro l x W K hK
    simp only [encB]
    gi_wp2
    exact hK
  case body =>
    clear bR bO bB
    rintro lo pre x W ⟨hall, bO, bR, hB⟩ hlt
    have hx := x.2
    have hxm : x.1 < m.length := by have := HLM.out; omega
    have hqW := hq.on hB
    obtain ⟨b, o, rfl, hcell⟩ := hqW.at (by omega)
    have c0 := hcell x.1 hxm
    have cO := bO.cell
    have cR := bR.cell
    have fR := bR.frozen
    have hxi : (x.1 : Int) < l.length := by omega
    by_cases he : nAt l x.1 = nAt m x.1
    · have HE : Hid (∀ y, y ∈ pre ++ [x] → nAt l y.1 = nAt m y.1) := by
        intro y hy
        rcases List.mem_append.1 hy with hy | hy
        · exact hall y hy
        · simp at hy; rw [hy]; exact he
      rw [← he] at c0
      clear he hcell hqW
      gi_wp2
      exact ⟨KeepsFrom.refl _ _, Kp.refl _ _ _, HE.out, bO, bR, hB⟩
    · have tne : (((nAt l x.1 : Nat) : Int) != ((nAt m x.1 : Nat) : Int)) = true := by simp; omega
      have HO : Hid (nAt l x.1 ≠ nAt m x.1) := he
      have hcast : decide (((nAt l x.1 : Nat) : Int) < ((nAt m x.1 : Nat) : Int)) = decide (nAt l x.1 < nAt m x.1) := by rw [decide_eq_decide]; omega
      clear he hcell hqW
      gi_wp2
      have k1 : KeepsOthers W (W.setCell ⟨w.heap.size + 1, 0, none⟩ (.bool (decide (nAt l x.1 < nAt m x.1)))) := KeepsOthers.setCell _ _ _
      refine ⟨k1.from _, ⟨_, ⟨rfl, pre, x, rfl, hall, HO.out, rfl⟩, bR.set _⟩, ?_⟩
      exact hB.setCell (p := ⟨w.heap.size + 1, 0, none⟩) (by show w.heap.size ≤ w.heap.size + 1; omega) _
  case done =>
    rintro D ys W hD hys ⟨hall, bO', bR', hB⟩ hK
    have cR := bR'.cell
    have fR := bR'.frozen
    have he : l = m := all_same HLM.out (fun j hj => by
      have h2 := down_mem l.length j hj
      rw [← hys] at h2
      obtain ⟨x, hx, hxj⟩ := List.mem_map.1 h2
      have := hall x hx
      rw [hxj] at this
      exact this)
    have hF : decide (val 10 l < val 10 m) = false := by rw [he]; simp
    have HF : Hid _ := hF
    clear he hF
    gi_wp2
    have hK2 := (KeepsOthers.setCell W ⟨w.heap.size + 1, 0, none⟩ (.bool false)).same D _ hK rfl
    refine ⟨by simp, .inl ⟨_, _, rfl, run_takeDeferred hK2, ?_⟩⟩
    have bR3 := Boxed.kept (bR'.set (.bool false)) (grownBy_putObj' _ D (.deferred none)) (fun e => by cases e; omega)
    have B1 := hB.setCell (p := ⟨w.heap.size + 1, 0, none⟩) (by show w.heap.size ≤ w.heap.size + 1; omega) (.bool false)
    have B2 := B1.trans (belowK_b (w := w) (Nat.le_refl _) _ D _ (.deferred none) (by omega) hK2 rfl rfl)
    have cR3 := bR3.cell
    generalize (W.setCell ⟨w.heap.size + 1, 0, none⟩ (.bool false)).putObj D (.deferred none) = W3 at bR3 B2 cR3 ⊢
    refine ⟨.bool false, ?_, ret_bool HF.out.symm, B2⟩
    simp [results, Try.results28, go_sem, cR3]
  case stop =>
    rintro D c pre W hD hpre ⟨⟨b, ⟨rfl, pre', x, rfl, hall, hne, hb⟩, bR'⟩, hB⟩ hK
    have hF : decide (val 10 l < val 10 m) = b := by
      rw [List.map_append] at hpre
      obtain ⟨h1, h2⟩ := down_prefix _ _ _ hpre
      rw [hb]
      refine top_diff HLM.out dl dm h1 (fun j h3 h4 => ?_) hne
      obtain ⟨y, hy, hyj⟩ := List.mem_map.1 (h2 j h3 h4)
      have := hall y hy
      rw [hyj] at this
      exact this
    have HF : Hid _ := hF
    clear hF hb hne hall hpre
    gi_wp2
    refine ⟨by simp, .inl ⟨_, _, rfl, run_takeDeferred hK, ?_⟩⟩
    have bR3 := Boxed.kept bR' (grownBy_putObj' _ D (.deferred none)) (fun e => by cases e; omega)
    have B2 := hB.trans (belowK_b (w := w) (Nat.le_refl _) _ D _ (.deferred none) (by omega) hK rfl rfl)
    have cR3 := bR3.cell
    generalize W.putObj D (.deferred none) = W3 at bR3 B2 cR3 ⊢
    refine ⟨.bool b, ?_, ret_bool HF.out.symm, B2⟩
    simp [results, Try.results28, go_sem, cR3]

theorem below_any (p q : Option Addr) (cp cq : Nat) (l m : List Nat) (w : World) (hl : l.length ≤ 10000000) (dl : Dg 10 l) (dm : Dg 10 m) (cl : Canon l) (cm : Canon m) (hp : Rd .u8 w p l) (hq : Rd .u8 w q m) :
    Calls Try.prog 28 #[.slice p l.length cp, .slice q m.length cq] w fun e w' => e = .returned (.bool (decide (val 10 l < val 10 m))) ∧ Below w.heap.size w w' := by
  by_cases h : l.length = m.length
  · have := (callsIn_wide (n := 3)).1 (below_in 3 (Nat.le_refl _) p q cp cq l m w h hl dl dm hp hq)
    rw [← h]
    exact this
  · refine (below_len p q cp cq l.length m.length w (by simp; omega)).mono ?_
    rintro e w' ⟨rfl, hB⟩
    refine ⟨ret_bool ?_, hB⟩
    rw [decide_eq_decide]
    rcases Nat.lt_or_gt_of_ne h with h | h
    · have := shorter_less dl cm h
      omega
    · have := shorter_less dm cl h
      omega
end Go.Proofs.Ytbckmahmlgjkpaa
