/- Regions: in the text's order, and in any order that Go leaves open. -/
import Derived.Test.YteeanpfhngoobaaGreatZXho
set_option linter.all false
namespace Go.Proofs.YteeanpfhngoobaaGreat.Xk
open Go.RowKit

section
variable {m : Nat → MB} {tm : List Value} {a : Act} {P : Program} {h h1 : HP} {w w0 : World} {B : Nat} {o : Oper} {v : Value} {ops : Array Oper} {Q : Exit → Act → World → Prop}
theorem bOf_cT (u : Value) : bOf (cT m u) = bOf u := by
  cases u with
  | pointer p => cases p <;> rfl
  | map p => cases p <;> rfl
  | slice p n c =>
    cases p with
    | none => rfl
    | some q =>
      obtain ⟨b, o, sp⟩ := q
      rw [cT_sl]
      unfold cs0
      split
      · rfl
      · split <;> rfl
  | _ => rfl
theorem yielded_eq (tmps : Array Value) (j : Nat) : yielded ops tmps j = (((ops[j]?).bind (·.dst)).bind (tmps[·]?)).bind bOf := by
  unfold yielded
  cases ((ops[j]?).bind (·.dst)).bind (tmps[·]?) with
  | none => rfl
  | some u => cases u <;> rfl
theorem xwant_ok (hf : FR m h.nb tm a) : xwant ops tm o = Region.wanted o (yielded ops a.tmps) := by
  unfold xwant Region.wanted
  cases o.guard with
  | none => rfl
  | some g =>
    obtain ⟨j, want⟩ := g
    dsimp only
    rw [yielded_eq]
    congr 1
    cases (ops[j]?).bind (·.dst) with
    | none => rfl
    | some t =>
      dsimp only [Option.bind_some]
      rw [hf.t]
      simp only [List.getElem?_toArray, List.getElem?_map]
      cases tm[t]? with
      | none => rfl
      | some u => exact (bOf_cT u).symm
theorem FR.put (hf : FR m h.nb tm a) {dst : Option Tmp} (hk : okT m h.nb v) : FR m h.nb (putT tm dst v) (a.put dst (cT m v)) := by
  cases dst with
  | none => exact hf
  | some d =>
    refine ⟨?_, hf.d, fun u hu => ?_⟩
    · show a.tmps.setIfInBounds d (cT m v) = ((tm.set d v).map (cT m)).toArray
      rw [hf.t, List.map_set]
      simp
    · rcases List.mem_or_eq_of_mem_set hu with hu | rfl
      · exact hf.k u hu
      · exact hk
theorem cT_undef : cT m undef = undef := by simp [cT, undef]
theorem okT_undef {nb : Nat} : okT m nb undef := fun v hv => by simp [undef] at hv
theorem FR.ext {m' : Nat → MB} {nb nb' : Nat} (hf : FR m nb tm a) (he : Ext m m' nb) (hn : nb ≤ nb') : FR m' nb' tm a :=
  ⟨by rw [hf.t]; congr 1; exact List.map_congr_left fun v hv => ((okT_ext he hn (hf.k v hv)).2).symm, hf.d, fun v hv => (okT_ext he hn (hf.k v hv)).1⟩
/-- What is asked of a call. -/
def HC (P : Program) (call : Nat → List Value → HP → Option (Value × HP)) : Prop :=
  ∀ k vs h v h1, call k vs h = some (v, h1) → (∃ fn, P.funcs[k]? = some fn ∧ (fn.name == "runtime.NumGoroutine") = false ∧ fn.body.isNone = false) ∧
    ∀ B w0 m w, WR B w0 m h w → (∀ u ∈ vs, okT m h.nb u) → Calls P k (vs.map (cT m)).toArray w fun e w' => ∃ m', Ext m m' h.nb ∧ h.nb ≤ h1.nb ∧ e = .returned (cT m' v) ∧ okT m' h1.nb v ∧ WR B w0 m' h1 w'
theorem looks_of (hw : WR B w0 m h w) {D : List (Nat × Nat)} (hD : ∀ p ∈ D, ∃ u, h.read p.1 p.2 1 = some [u]) : Looks m h w D := fun p hp => by
  obtain ⟨u, hu⟩ := hD p hp
  obtain ⟨r, hg, hl, hle, e⟩ := read_ok hu
  refine ⟨u, hu, hw.at_ p.1 r hg hl p.2 u ?_⟩
  have : ((r.cells.drop p.2).take 1)[0]? = some u := by rw [← e]; rfl
  rwa [List.getElem?_take_of_lt (by omega), List.getElem?_drop, Nat.add_zero] at this
theorem lop_D {D : List (Nat × Nat)} (hh : HR m h) (hf : FR m h.nb tm a) (hl : lop P tm h o = some (v, D)) : ∀ p ∈ D, ∃ u, h.read p.1 p.2 1 = some [u] := by
  by_cases h0 : loadK o = true
  · unfold loadK at h0
    split at h0
    · rename_i t x ho
      unfold lop at hl
      rw [ho] at hl
      dsimp only at hl
      split at hl
      · split at hl
        · split at hl
          · rename_i cs hr
            cases hl
            intro p hp
            obtain ⟨j, hj, rfl⟩ := List.mem_map.1 hp
            obtain ⟨u, -, hu⟩ := read_one hr (List.mem_range.1 hj)
            exact ⟨u, hu⟩
          · cases hl
        · split at hl
          · rename_i u hr
            cases hl
            intro p hp
            obtain rfl : p = _ := by simpa using hp
            exact ⟨_, hr⟩
          · cases hl
      · cases hl
    · cases h0
  · obtain ⟨-, h2, -⟩ := lop_ok hh hf hl
    rw [h2 (by simpa using h0)]
    simp
/-- One operation. -/
theorem heavy_wp {call : Nat → List Value → HP → Option (Value × HP)} (hc : HC P call) (hw : WR B w0 m h w) (hf : FR m h.nb tm a) (hh : hop P call tm h o = some (v, h1)) {K : Act → World → Prop}
    (hK : ∀ m' w', Ext m m' h.nb → h.nb ≤ h1.nb → FR m' h1.nb (putT tm o.dst v) (a.put o.dst (cT m' v)) → WR B w0 m' h1 w' → K (a.put o.dst (cT m' v)) w') : o.wp P a w K Q := by
  unfold Oper.wp
  rcases hop_ok (P := P) hw hf hh with ⟨m', w1, e1, e2, e3, e4, e5⟩ | ⟨k, vs, hk, hok, c, f, ho, hcal, hev, hargs⟩
  · have hf' := (hf.ext e1 e2).put (dst := o.dst) e3
    rcases e5 with e5 | ⟨rfl, e5⟩
    · rw [e5]
      exact hK m' w1 e1 e2 hf' e4
    · rw [e5]
      have := hK m' w1 e1 e2 hf' e4
      rwa [cT_undef] at this
  · obtain ⟨⟨fn, f1, f2, f3⟩, hcall⟩ := hc k vs h v h1 hk
    have hrun : (execOp a.eval o).run P w = .ok (.enter k (vs.map (cT m)).toArray) w := by
      simp [execOp, ho, resolve, hcal, hev, hargs, Deferred.ofValue, invoke, callFunc, f1, Result.andThen]
      rw [if_neg (fun e => by rw [e] at f2; simp at f2), if_neg (fun e => by rw [e] at f3; cases f3)]
    rw [hrun]
    refine (hcall B w0 m w hw hok).mono fun e w' ⟨m', e1, e2, e3, e4, e5⟩ => ?_
    subst e3
    exact hK m' w' e1 e2 ((hf.ext e1 e2).put e4) e5
theorem light_run {D : List (Nat × Nat)} (hh : HR m h) (hf : FR m h.nb tm a) (hl : lop P tm h o = some (v, D)) : okT m h.nb v ∧ ∀ w, Looks m h w D → (execOp a.eval o).run P w = .ok (.value (cT m v)) w :=
  ⟨(lop_ok hh hf hl).1, (lop_ok hh hf hl).2.2⟩
/-- In the text's order. -/
theorem xops_ok {call : Nat → List Value → HP → Option (Value × HP)} (hc : HC P call) (cv : List Nat) : ∀ (l : List Nat) (tm : List Value) (h : HP) (tm' : List Value) (h' : HP) (D : List (Nat × Nat)) (H : List HP), xops P call ops cv l tm h = some (tm', h', D, H) →
    ∀ m a w, FR m h.nb tm a → WR B w0 m h w → (∀ m' a' w', Ext m m' h.nb → h.nb ≤ h'.nb → FR m' h'.nb tm' a' → WR B w0 m' h' w' → Q .normal a' w') → wpOps P ops Q l a w
  | [], tm, h, tm', h', D, H, hx, m, a, w, hf, hw, hQ => by
    simp only [xops, Option.some.injEq, Prod.mk.injEq] at hx
    obtain ⟨rfl, rfl, -, -⟩ := hx
    exact hQ m a w Ext.refl (Nat.le_refl _) hf hw
  | i :: rest, tm, h, tm', h', D, H, hx, m, a, w, hf, hw, hQ => by
    rw [wpOps_cons]
    unfold xops at hx
    unfold wpOp
    split at hx
    · cases hx
    · rename_i o ho
      rw [ho]
      dsimp only
      rw [xwant_ok hf] at hx
      split at hx
      · rename_i hwant
        rw [if_pos hwant]
        refine .inl ?_
        split at hx
        · split at hx
          · rename_i v D1 hl
            split at hx
            · rename_i tm2 h2 D2 H2 hx2
              simp only [Option.some.injEq, Prod.mk.injEq] at hx
              obtain ⟨rfl, rfl, -, -⟩ := hx
              obtain ⟨k1, k2⟩ := light_run (P := P) hw.toHR hf hl
              unfold Oper.wp
              rw [k2 w (looks_of hw (lop_D hw.toHR hf hl))]
              exact xops_ok hc cv rest _ h _ _ _ _ hx2 m _ w (hf.put k1) hw hQ
            · cases hx
          · cases hx
        · split at hx
          · rename_i v h1 hh
            split at hx
            · rename_i tm2 h2 D2 H2 hx2
              simp only [Option.some.injEq, Prod.mk.injEq] at hx
              obtain ⟨rfl, rfl, -, -⟩ := hx
              refine heavy_wp hc hw hf hh fun m1 w1 e1 e2 e3 e4 => ?_
              exact xops_ok hc cv rest _ h1 _ _ _ _ hx2 m1 _ w1 e3 e4 fun m2 a2 w2 f1 f2 f3 f4 => hQ m2 a2 w2 (e1.trans f1 e2) (by omega) f3 f4
            · cases hx
          · cases hx
      · rename_i hwant
        rw [if_neg hwant]
        have hp := hf.put (dst := o.dst) (okT_undef (m := m))
        rw [cT_undef] at hp
        exact xops_ok hc cv rest _ h _ _ _ _ hx m _ w hp hw hQ
end
end Go.Proofs.YteeanpfhngoobaaGreat.Xk
namespace Go.Proofs.YteeanpfhngoobaaGreat.Xk
open Go.RowKit

section
variable {P : Program} {ops : Array Oper} {Q : Exit → Act → World → Prop} {S : World → Prop}
/-- Whatever comes up next; what the loads look at is kept by each operation that is not bound behind all loads. -/
def wpAX (P : Program) (ops : Array Oper) (Q : Exit → Act → World → Prop) (S : World → Prop) : Nat → Array Bool → Act → World → Prop
  | 0, listed, a, w => Region.ready .any ops listed = [] ∧ Q .normal a w
  | n + 1, listed, a, w => (Region.ready .any ops listed = [] → Q .normal a w) ∧
      ∀ i ∈ Region.ready .any ops listed, wpOp P ops Q i (fun a' w' => (cov ops i = true ∨ (S w → S w')) ∧ wpAX P ops Q S n (listed.setIfInBounds i true) a' w') a w
theorem wpAX_any : ∀ (n : Nat) (listed : Array Bool) (a : Act) (w : World), wpAX P ops Q S n listed a w → wpAny P .any ops Q n listed a w
  | 0, _, _, _, h => h
  | n + 1, _, _, _, h => ⟨h.1, fun i hi => wpOp_mono (fun a' w' h' => wpAX_any n _ a' w' h'.2) (h.2 i hi)⟩
theorem cov_load {i j : Nat} {oi oj : Oper} (hi : ops[i]? = some oi) (hj : ops[j]? = some oj) (hl : loadK oi = true) (hc : cov ops j = true) : ∃ e ∈ oj.after, Region.binds .any e = true ∧ e.on = i := by
  unfold cov at hc
  rw [hj] at hc
  simp only [List.all_eq_true, List.mem_range] at hc
  have := hc i (Array.getElem?_eq_some_iff.1 hi).1
  rw [hi] at this
  dsimp only at this
  rw [hl] at this
  simp only [Bool.not_true, Bool.false_or] at this
  obtain ⟨e, he, hb⟩ := Array.any_eq_true'.1 this
  simp only [Bool.and_eq_true, beq_iff_eq] at hb
  exact ⟨e, he, hb.1, hb.2⟩
theorem wpAX_first {i : Nat} {oi : Oper} {v : Value} (hi : ops[i]? = some oi) (hsel : ∀ (j : Nat) (o : Oper) cs b, ops[j]? = some o → o.op ≠ .select cs b) (hQ : ∀ c a w, Q (.panic c) (a.put oi.dst v) w → Q (.panic c) a w) :
    ∀ (n : Nat) (listed : Array Bool) (a : Act) (w : World),
      (∀ j oj, ops[j]? = some oj → j ≠ i → listed.getD j true = false → (∀ e ∈ oj.after, Region.binds .any e = true → e.on ≠ i) → oi.apart ops oj = true) →
      i ∈ Region.ready .any ops listed → YieldsIf P ops (fun w => loadK oi = true → S w) oi v a → (loadK oi = true → S w) →
      wpAX P ops Q S n (listed.setIfInBounds i true) (a.put oi.dst v) w → wpAX P ops Q S (n + 1) listed a w
  | n, listed, a, w, hfree, hr, hy, hS, H => by
    refine ⟨fun h => (by rw [h] at hr; cases hr), fun j hj => ?_⟩
    by_cases hji : j = i
    · subst hji
      exact hy.wpOp hi hS ⟨.inr id, H⟩
    · cases n with
      | zero =>
        have := ready_mono hj hji
        rw [H.1] at this
        cases this
      | succ n =>
        obtain ⟨hjun, oj, hoj, hall⟩ := mem_ready.1 hj
        have hnot : ∀ e ∈ oj.after, Region.binds .any e = true → e.on ≠ i := fun e he hb heq => by
          have h1 := hall e he hb
          have h0 := (mem_ready.1 hr).1
          rw [heq] at h1
          rcases Nat.lt_or_ge i listed.size with h' | h'
          · simp [h'] at h0 h1; rw [h0] at h1; cases h1
          · simp [Array.getElem?_eq_none h'] at h1
        have h2 := wpOp_putIf hoj (hfree j oj hoj hji hjun hnot) (fun cs b => hsel i oi cs b hi) (fun cs b => hsel j oj cs b hoj) hQ hy (H.2 j (ready_mono hj hji))
        refine wpOp_mono (fun a' w' h3 => ⟨h3.2.1, ?_⟩) h2
        refine wpAX_first hi hsel hQ n _ a' w' (fun x ox hx hxi hun hno => hfree x ox hx hxi ?_ hno) (ready_mono hr (Ne.symm hji)) h3.1 (fun hl => ?_) ?_
        · by_cases hjx : j = x
          · subst hjx; exact hjun
          · rw [getD_set_ne true hjx] at hun; exact hun
        · rcases h3.2.1 with hc | hc
          · obtain ⟨e, he, hb, hon⟩ := cov_load hi hoj hl hc
            exact absurd hon (hnot e he hb)
          · exact hc (hS hl)
        · rw [Array.setIfInBounds_comm _ _ hji]
          exact h3.2.2
end

section
variable {m m0 : Nat → MB} {tm : List Value} {a : Act} {P : Program} {h h0 h1 : HP} {w w0 wS : World} {B : Nat} {o : Oper} {v : Value} {ops : Array Oper} {Q : Exit → Act → World → Prop} {D0 : List (Nat × Nat)}
theorem sameC_eq {u v : Value} (hs : sameC u v = true) : u = v := by
  unfold sameC at hs
  split at hs
  · rw [beq_iff_eq] at hs; rw [hs]
  · simp only [Bool.and_eq_true, decide_eq_true_eq, beq_iff_eq] at hs; rw [hs.1, hs.2]
  · rename_i a b
    rw [beq_iff_eq] at hs
    have : a = b := by
      cases a; cases b
      congr 1
      exact Array.ext' hs
    rw [this]
  · rw [beq_iff_eq] at hs; rw [hs]
  · rw [beq_iff_eq] at hs; rw [hs]
  · simp only [Bool.and_eq_true, beq_iff_eq] at hs; rw [hs.1.1, hs.1.2, hs.2]
  · cases hs
theorem sameAt_spec {g h : HP} {p : Nat × Nat} (hs : sameAt g h p = true) : ∃ u, g.read p.1 p.2 1 = some [u] ∧ h.read p.1 p.2 1 = some [u] := by
  unfold sameAt at hs
  split at hs
  · rename_i u v h1 h2
    have e := sameC_eq hs
    subst e
    exact ⟨_, h1, h2⟩
  · cases hs
/-- The cells hold in h what they held in h0. -/
def AG (D0 : List (Nat × Nat)) (h0 h : HP) : Prop := ∀ p ∈ D0, sameAt h0 h p = true
theorem AG.looks (hg : AG D0 h0 h) (hh0 : HR m0 h0) (he : Ext m0 m h0.nb) (hn : h0.nb ≤ h.nb) {D : List (Nat × Nat)} (hD : ∀ p ∈ D, p ∈ D0) {w : World} (hL : Looks m0 h0 w D0) : Looks m h w D := fun p hp => by
  obtain ⟨u, hu0, hu⟩ := sameAt_spec (hg p (hD p hp))
  obtain ⟨u2, hr, hc⟩ := hL p (hD p hp)
  rw [hu0] at hr
  obtain rfl : u = u2 := by simpa using hr
  obtain ⟨r, hg0, -, -, -⟩ := read_ok hu0
  have hk := (read_mem hh0 hu0 (v := u) (by simp)).1
  refine ⟨u, hu, ?_⟩
  rw [(okC_ext he hn hk).2]
  unfold ca at hc ⊢
  rw [he p.1 (get_lt hg0)]
  exact hc
theorem AG.back (hg : AG D0 h0 h) (hh0 : HR m0 h0) (he : Ext m0 m h0.nb) (hn : h0.nb ≤ h.nb) (hw : WR B w0 m h w) : Looks m0 h0 w D0 := fun p hp => by
  obtain ⟨u, hu0, hu⟩ := sameAt_spec (hg p hp)
  obtain ⟨u2, hr, hc⟩ := looks_of hw (D := [p]) (fun q hq => by rw [show q = p by simpa using hq]; exact ⟨u, hu⟩) p (by simp)
  rw [hu] at hr
  obtain rfl : u = u2 := by simpa using hr
  obtain ⟨r, hg0, -, -, -⟩ := read_ok hu0
  have hk := (read_mem hh0 hu0 (v := u) (by simp)).1
  refine ⟨u, hu0, ?_⟩
  rw [(okC_ext he hn hk).2] at hc
  unfold ca at hc ⊢
  rw [he p.1 (get_lt hg0)] at hc
  exact hc
theorem lightAt_of {i : Nat} (ho : ops[i]? = some o) : lightAt P ops i = lightK P o := by unfold lightAt; rw [ho]
theorem loadAt_of {i : Nat} (ho : ops[i]? = some o) : loadAt ops i = loadK o := by unfold loadAt; rw [ho]
/-- An order that is found serves for every order. -/
theorem xdraw_ok {call : Nat → List Value → HP → Option (Value × HP)} (hc : HC P call) (hsel : Region.noSelect ops = true) (hh0 : HR m0 h0) (hQp : ∀ c a w, ¬ Q (.panic c) a w) {cv : List Nat} (hcv : cv.all (cov ops) = true) : ∀ (n : Nat) (listed : Array Bool) (s : List Nat), sched P ops n listed = some s →
    ∀ (tm : List Value) (h : HP) (tm' : List Value) (h' : HP) (D : List (Nat × Nat)) (H : List HP), xops P call ops cv s tm h = some (tm', h', D, H) → (∀ p ∈ D, p ∈ D0) → (∀ g ∈ H, AG D0 h0 g) →
    ∀ m a w, Ext m0 m h0.nb → h0.nb ≤ h.nb → FR m h.nb tm a → WR B w0 m h w → ((AG D0 h0 h ∧ Looks m0 h0 w D0 ∧ tailOk P ops s = true) ∨ s.all (okAfter P ops) = true) →
    (∀ m' a' w', Ext m m' h.nb → h.nb ≤ h'.nb → FR m' h'.nb tm' a' → WR B w0 m' h' w' → Q .normal a' w') → wpAX P ops Q (fun w => Looks m0 h0 w D0) n listed a w
  | 0, listed, s, hs, tm, h, tm', h', D, H, hx, hD, hH, m, a, w, he, hn, hf, hw, hst, hQ => by
    simp only [sched] at hs
    split at hs
    · rename_i hr
      cases hs
      simp only [xops, Option.some.injEq, Prod.mk.injEq] at hx
      obtain ⟨rfl, rfl, -, -⟩ := hx
      exact ⟨hr, hQ m a w Ext.refl (Nat.le_refl _) hf hw⟩
    · cases hs
  | n + 1, listed, s, hs, tm, h, tm', h', D, H, hx, hD, hH, m, a, w, he, hn, hf, hw, hst, hQ => by
    -- what any operation of the order does, taken now
    have now : ∀ (i : Nat) (s2 : List Nat), s = i :: s2 → sched P ops n (listed.setIfInBounds i true) = some s2 →
        wpOp P ops Q i (fun a' w' => (cov ops i = true ∨ (Looks m0 h0 w D0 → Looks m0 h0 w' D0)) ∧ wpAX P ops Q (fun w => Looks m0 h0 w D0) n (listed.setIfInBounds i true) a' w') a w ∧
        (lightAt P ops i = true → ∃ o v, ops[i]? = some o ∧ YieldsIf P ops (fun w => loadK o = true → Looks m0 h0 w D0) o v a ∧ (loadK o = true → Looks m0 h0 w D0) ∧ wpAX P ops Q (fun w => Looks m0 h0 w D0) n (listed.setIfInBounds i true) (a.put o.dst v) w) := by
      intro i s2 es hs2
      subst es
      unfold xops at hx
      split at hx
      · cases hx
      · rename_i o ho
        have hla := lightAt_of (P := P) ho
        have hlo := loadAt_of ho
        rw [xwant_ok hf] at hx
        split at hx
        · rename_i hwant
          split at hx
          · rename_i hlk
            split at hx
            · rename_i v D1 hl
              split at hx
              · rename_i tm2 h2 D2 H2 hx2
                simp only [Option.some.injEq, Prod.mk.injEq] at hx
                obtain ⟨rfl, rfl, rfl, rfl⟩ := hx
                obtain ⟨k1, k2, k3⟩ := lop_ok (P := P) hw.toHR hf hl
                have hst2 : (AG D0 h0 h ∧ Looks m0 h0 w D0 ∧ tailOk P ops s2 = true) ∨ s2.all (okAfter P ops) = true := by
                  rcases hst with ⟨q1, q2, q3⟩ | q
                  · refine .inl ⟨q1, q2, ?_⟩
                    unfold tailOk at q3
                    rw [hla, hlk] at q3
                    simpa using q3
                  · rw [List.all_cons, Bool.and_eq_true] at q
                    exact .inr q.2
                have hrest := xdraw_ok hc hsel hh0 hQp hcv n _ s2 hs2 _ h _ _ _ _ hx2 (fun p hp => hD p (by simp [hp])) hH m _ w he hn (hf.put k1) hw hst2 hQ
                have hld : loadK o = true → AG D0 h0 h ∧ Looks m0 h0 w D0 := fun hl2 => by
                  rcases hst with ⟨q1, q2, q3⟩ | q
                  · exact ⟨q1, q2⟩
                  · rw [List.all_cons, Bool.and_eq_true] at q
                    have := q.1
                    unfold okAfter at this
                    rw [hla, hlk, hlo, hl2] at this
                    simp at this
                have hrun : (execOp a.eval o).run P w = .ok (.value (cT m v)) w := k3 w (looks_of hw (lop_D hw.toHR hf hl))
                refine ⟨?_, fun _ => ⟨o, cT m v, ho, .inl ⟨hwant, fun w' hS => ?_⟩, fun hl2 => (hld hl2).2, hrest⟩⟩
                · unfold wpOp
                  rw [ho]
                  dsimp only
                  rw [if_pos hwant]
                  refine .inl ?_
                  unfold Oper.wp
                  rw [hrun]
                  exact ⟨.inr id, hrest⟩
                · by_cases hl2 : loadK o = true
                  · exact k3 w' ((hld hl2).1.looks hh0 he hn (fun p hp => hD p (by simp [hp])) (hS hl2))
                  · rw [k2 (by simpa using hl2)] at k3
                    exact k3 w' (fun p hp => by simp at hp)
              · cases hx
            · cases hx
          · rename_i hlk
            split at hx
            · rename_i v h1 hh
              split at hx
              · rename_i tm2 h2 D2 H2 hx2
                simp only [Option.some.injEq, Prod.mk.injEq] at hx
                obtain ⟨rfl, rfl, rfl, rfl⟩ := hx
                refine ⟨?_, fun hl2 => by rw [hla] at hl2; exact absurd hl2 hlk⟩
                unfold wpOp
                rw [ho]
                dsimp only
                rw [if_pos hwant]
                refine .inl (heavy_wp hc hw hf hh fun m1 w1 e1 e2 e3 e4 => ?_)
                have hn1 : h0.nb ≤ h1.nb := Nat.le_trans hn e2
                have he1 : Ext m0 m1 h0.nb := he.trans e1 hn
                have hlf : lightAt P ops i = false := by rw [hla]; simpa using hlk
                have hst2 : (cov ops i = true ∨ (Looks m0 h0 w D0 → Looks m0 h0 w1 D0)) ∧ ((AG D0 h0 h1 ∧ Looks m0 h0 w1 D0 ∧ tailOk P ops s2 = true) ∨ s2.all (okAfter P ops) = true) ∧ ∀ g ∈ H2, AG D0 h0 g := by
                  by_cases hct : cv.contains i = true
                  · have hcv1 : cov ops i = true := List.all_eq_true.1 hcv i (by simpa using hct)
                    rw [if_pos hct] at hH
                    refine ⟨.inl hcv1, .inr ?_, hH⟩
                    rcases hst with ⟨q1, q2, q3⟩ | q
                    · unfold tailOk at q3
                      rw [hlf, hcv1] at q3
                      simpa using q3
                    · rw [List.all_cons, Bool.and_eq_true] at q
                      exact q.2
                  · rw [if_neg hct] at hH
                    have hag := hH h1 (by simp)
                    have hL := hag.back hh0 he1 hn1 e4
                    refine ⟨.inr fun _ => hL, ?_, fun g hg => hH g (by simp [hg])⟩
                    rcases hst with ⟨q1, q2, q3⟩ | q
                    · unfold tailOk at q3
                      rw [hlf] at q3
                      cases hcv1 : cov ops i with
                      | true =>
                        rw [hcv1] at q3
                        exact .inr (by simpa using q3)
                      | false =>
                        rw [hcv1] at q3
                        exact .inl ⟨hag, hL, by simpa using q3⟩
                    · rw [List.all_cons, Bool.and_eq_true] at q
                      exact .inr q.2
                refine ⟨hst2.1, ?_⟩
                exact xdraw_ok hc hsel hh0 hQp hcv n _ s2 hs2 _ h1 _ _ _ _ hx2 hD hst2.2.2 m1 _ w1 he1 hn1 e3 e4 hst2.2.1 fun m2 a2 w2 f1 f2 f3 f4 => hQ m2 a2 w2 (e1.trans f1 e2) (by omega) f3 f4
              · cases hx
            · cases hx
        · rename_i hwant
          have hp := hf.put (dst := o.dst) (okT_undef (m := m))
          rw [cT_undef] at hp
          have hst2 : (AG D0 h0 h ∧ Looks m0 h0 w D0 ∧ tailOk P ops s2 = true) ∨ s2.all (okAfter P ops) = true := by
            rcases hst with ⟨q1, q2, q3⟩ | q
            · unfold tailOk at q3
              split at q3
              · exact .inl ⟨q1, q2, q3⟩
              · exact .inr q3
            · rw [List.all_cons, Bool.and_eq_true] at q
              exact .inr q.2
          have hrest := xdraw_ok hc hsel hh0 hQp hcv n _ s2 hs2 _ h _ _ _ _ hx hD hH m _ w he hn hp hw hst2 hQ
          refine ⟨?_, fun hl2 => ⟨o, undef, ho, .inr ⟨by simpa using hwant, rfl⟩, fun hl3 => ?_, hrest⟩⟩
          · unfold wpOp
            rw [ho]
            dsimp only
            rw [if_neg hwant]
            exact ⟨.inr id, hrest⟩
          · rcases hst with ⟨q1, q2, q3⟩ | q
            · exact q2
            · rw [List.all_cons, Bool.and_eq_true] at q
              have := q.1
              unfold okAfter at this
              rw [hl2, hlo, hl3] at this
              simp at this
    simp only [sched] at hs
    split at hs
    · rename_i hr
      cases hs
      simp only [xops, Option.some.injEq, Prod.mk.injEq] at hx
      obtain ⟨rfl, rfl, -, -⟩ := hx
      exact ⟨fun _ => hQ m a w Ext.refl (Nat.le_refl _) hf hw, by rw [hr]; simp⟩
    · rename_i hr
      split at hs
      · rename_i i hfi
        split at hs
        · rename_i s2 hs2
          cases hs
          have hmem := List.mem_of_find?_eq_some hfi
          have hp := List.find?_some hfi
          simp only [Bool.and_eq_true] at hp
          obtain ⟨-, hlt⟩ := now i s2 rfl hs2
          obtain ⟨o, v, ho, hy, hS, hrest⟩ := hlt hp.1
          exact wpAX_first ho (Region.noSelect_spec hsel) (fun c a w hq => absurd hq (hQp c _ w)) n listed a w (Region.free_spec ho hp.2) hmem hy hS hrest
        · cases hs
      · split at hs
        · rename_i i hri
          split at hs
          · rename_i s2 hs2
            cases hs
            refine ⟨fun h0 => (by rw [hri] at h0; cases h0), fun j hj => ?_⟩
            rw [hri] at hj
            obtain rfl : j = i := by simpa using hj
            exact (now j s2 rfl hs2).1
          · cases hs
        · cases hs
end
end Go.Proofs.YteeanpfhngoobaaGreat.Xk
