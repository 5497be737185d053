/- Laws of a program in the run's own memory: no order, no spare room, no world is seen in them. -/
import Derived.Test.YteeanpfhngoobaaGreatZXrn
set_option linter.all false
namespace Go.Proofs.YteeanpfhngoobaaGreat.Xk
open Go.RowKit

section
variable {P : Program} {h h0 h1 : HP} {tm : List Value} {Q : Exit → List Value → HP → Prop}
/-- From these slots and this memory the code ends as Q tells. -/
def CodeR (P : Program) (c : Code) (tm : List Value) (h : HP) (Q : Exit → List Value → HP → Prop) : Prop :=
  ∀ B w0 m a w, FR m h.nb tm a → WR B w0 m h w → c.wp P (fun e a' w' => ∃ m' tm' h', Ext m m' h.nb ∧ h.nb ≤ h'.nb ∧ FR m' h'.nb tm' a' ∧ WR B w0 m' h' w' ∧ Q e tm' h') a w
def isFun (P : Program) (k : Nat) : Prop := ∃ fn, P.funcs[k]? = some fn ∧ (fn.name == "runtime.NumGoroutine") = false ∧ fn.body.isNone = false
/-- The call returns as R tells. -/
def CallR (P : Program) (k : Nat) (vs : List Value) (h : HP) (R : Value → HP → Prop) : Prop :=
  isFun P k ∧ ∀ B w0 m w, WR B w0 m h w → (∀ u ∈ vs, okT m h.nb u) → Calls P k (vs.map (cT m)).toArray w fun e w' => ∃ m' v h', Ext m m' h.nb ∧ h.nb ≤ h'.nb ∧ e = .returned (cT m' v) ∧ okT m' h'.nb v ∧ WR B w0 m' h' w' ∧ R v h'
theorem CallR.mono {k : Nat} {vs : List Value} {R R' : Value → HP → Prop} (hc : CallR P k vs h R) (hr : ∀ v h', R v h' → R' v h') : CallR P k vs h R' :=
  ⟨hc.1, fun B w0 m w hw hk => (hc.2 B w0 m w hw hk).mono fun e w' ⟨m', v, h', h1, h2, h3, h4, h5, h6⟩ => ⟨m', v, h', h1, h2, h3, h4, h5, hr _ _ h6⟩⟩
theorem CodeR.mono {c : Code} {Q' : Exit → List Value → HP → Prop} (hc : CodeR P c tm h Q) (hr : ∀ e t h', Q e t h' → Q' e t h') : CodeR P c tm h Q' :=
  fun B w0 m a w hf hw => wp_mono (hc B w0 m a w hf hw) fun e a' w' ⟨m', t, h', h1, h2, h3, h4, h5⟩ => ⟨m', t, h', h1, h2, h3, h4, hr _ _ _ h5⟩
/-- What a run answers. -/
theorem CallR.of_run {call : Nat → List Value → HP → Option (Value × HP)} (hc : HC P call) {k : Nat} {vs : List Value} {v : Value} (hx : call k vs h = some (v, h1)) : CallR P k vs h (fun v' h' => v' = v ∧ h' = h1) :=
  ⟨(hc k vs h v h1 hx).1, fun B w0 m w hw hk => ((hc k vs h v h1 hx).2 B w0 m w hw hk).mono fun e w' ⟨m', q1, q2, q3, q4, q5⟩ => ⟨m', v, h1, q1, q2, q3, q4, q5, rfl, rfl⟩⟩
theorem CodeR.skip (hq : Q .normal tm h) : CodeR P .skip tm h Q := fun B w0 m a w hf hw => wp_skip ⟨m, tm, h, Ext.refl, Nat.le_refl _, hf, hw, hq⟩
theorem CodeR.ret (hq : Q .ret tm h) : CodeR P .ret tm h Q := fun B w0 m a w hf hw => wp_ret ⟨m, tm, h, Ext.refl, Nat.le_refl _, hf, hw, hq⟩
theorem CodeR.exit {id : Nat} (hq : Q (.exit id) tm h) : CodeR P (.exit id) tm h Q := fun B w0 m a w hf hw => wp_exit ⟨m, tm, h, Ext.refl, Nat.le_refl _, hf, hw, hq⟩
def thenR (N : List Value → HP → Prop) (Q : Exit → List Value → HP → Prop) : Exit → List Value → HP → Prop
  | .normal, t, h => N t h
  | e, t, h => Q e t h
theorem CodeR.seq {x y : Code} (hc : CodeR P x tm h (thenR (fun t h => CodeR P y t h Q) Q)) : CodeR P (.seq x y) tm h Q := fun B w0 m a w hf hw => by
  refine wp_seq (wp_mono (hc B w0 m a w hf hw) fun e a' w' ⟨m', t, h', h1, h2, h3, h4, h5⟩ => ?_)
  cases e with
  | normal =>
    refine wp_mono (h5 B w0 m' a' w' h3 h4) fun e2 a2 w2 ⟨m2, t2, h2', g1, g2, g3, g4, g5⟩ => ?_
    exact ⟨m2, t2, h2', h1.trans g1 h2, by omega, g3, g4, g5⟩
  | _ => exact ⟨m', t, h', h1, h2, h3, h4, h5⟩
theorem CodeR.cond {x : Operand} {b : Bool} {c d : Code} (hx : evl tm x = some (.bool b)) (hc : CodeR P (if b then c else d) tm h Q) : CodeR P (.cond x c d) tm h Q :=
  fun B w0 m a w hf hw => wp_cond (evl_eval hf hx).1 (hc B w0 m a w hf hw)
def blockR (id : Nat) (Q : Exit → List Value → HP → Prop) : Exit → List Value → HP → Prop
  | .exit i, t, h => if i = id then Q .normal t h else Q (.exit i) t h
  | e, t, h => Q e t h
theorem CodeR.block {id : Nat} {c : Code} (hc : CodeR P c tm h (blockR id Q)) : CodeR P (.block id c) tm h Q := fun B w0 m a w hf hw => by
  refine wp_block (wp_mono (hc B w0 m a w hf hw) fun e a' w' ⟨m', t, h', h1, h2, h3, h4, h5⟩ => ?_)
  cases e with
  | exit i =>
    unfold Exit.inBlock
    unfold blockR at h5
    dsimp only at h5 ⊢
    by_cases hi : i = id
    · rw [if_pos hi] at h5 ⊢
      exact ⟨m', t, h', h1, h2, h3, h4, h5⟩
    · rw [if_neg hi] at h5 ⊢
      exact ⟨m', t, h', h1, h2, h3, h4, h5⟩
  | _ => exact ⟨m', t, h', h1, h2, h3, h4, h5⟩
/-- A loop: what holds ahead of each round, with a number that goes down. -/
theorem CodeR.loop {c : Code} (I : Nat → List Value → HP → Prop) {n : Nat} (hI : I n tm h) (round : ∀ n t g, I n t g → CodeR P c t g (thenR (fun t' g' => ∃ k, k < n ∧ I k t' g') Q)) : CodeR P (.loop c) tm h Q := fun B w0 m a w hf hw => by
  refine wp_loopN (fun k a w => ∃ j m' t g, j < k ∧ I j t g ∧ Ext m m' h.nb ∧ h.nb ≤ g.nb ∧ FR m' g.nb t a ∧ WR B w0 m' g w) (fun a w ⟨j, _, _, _, hj, _⟩ => by omega) (fun k a w ⟨j, m', t, g, hj, h1, h2, h3, h4, h5⟩ => ?_) (n + 1) ⟨n, m, tm, h, by omega, hI, Ext.refl, Nat.le_refl _, hf, hw⟩
  refine wp_mono (round j t g h1 B w0 m' a w h4 h5) fun e a' w' ⟨m2, t2, g2, q1, q2, q3, q4, q5⟩ => ?_
  cases e with
  | normal =>
    obtain ⟨i, hi, q5⟩ := q5
    exact ⟨i, m2, t2, g2, by omega, q5, h2.trans q1 h3, by omega, q3, q4⟩
  | _ => exact ⟨m2, t2, g2, h2.trans q1 h3, by omega, q3, q4, q5⟩
/-- Which function does an operation call, with what? -/
def callAt (tm : List Value) (o : Oper) : Option (Nat × List Value) :=
  match o.op with
  | .call c => match isApp c with
    | some _ => none
    | none => match c.callee with
      | .value f => match (evl tm f).bind isFn, evls tm c.args.toList with
        | some k, some vs => some (k, vs)
        | _, _ => none
      | _ => none
  | _ => none
/-- A region's operations, one behind the other. dr: its order is left open; then D0 are the cells that its loads look at. -/
def OpR (P : Program) (ops : Array Oper) (cv : List Nat) (dr : Bool) (D0 : List (Nat × Nat)) (h0 : HP) : List Nat → List Value → HP → (List Value → HP → Prop) → Prop
  | [], tm, h, K => K tm h
  | i :: rest, tm, h, K => match ops[i]? with
    | none => False
    | some o =>
      if xwant ops tm o then
        if lightK P o then
          match lop P tm h o with
          | some (v, D) => (dr = true → ∀ p ∈ D, p ∈ D0) ∧ OpR P ops cv dr D0 h0 rest (putT tm o.dst v) h K
          | none => False
        else match callAt tm o with
          | some (k, vs) => CallR P k vs h fun v h1 => (dr = true → cv.contains i = true ∨ AG D0 h0 h1) ∧ OpR P ops cv dr D0 h0 rest (putT tm o.dst v) h1 K
          | none => match hop P noneK tm h o with
            | some (v, h1) => (dr = true → cv.contains i = true ∨ AG D0 h0 h1) ∧ OpR P ops cv dr D0 h0 rest (putT tm o.dst v) h1 K
            | none => False
      else OpR P ops cv dr D0 h0 rest (putT tm o.dst undef) h K
end
end Go.Proofs.YteeanpfhngoobaaGreat.Xk
namespace Go.Proofs.YteeanpfhngoobaaGreat.Xk
open Go.RowKit

section
variable {P : Program} {m m0 : Nat → MB} {h h0 h1 : HP} {tm : List Value} {a : Act} {w w0 : World} {B : Nat} {o : Oper} {ops : Array Oper} {Qw : Exit → Act → World → Prop} {D0 : List (Nat × Nat)}
theorem callAt_spec (hf : FR m h.nb tm a) {k : Nat} {vs : List Value} (hc : callAt tm o = some (k, vs)) : IsCall a m o k vs ∧ ∀ u ∈ vs, okT m h.nb u := by
  unfold callAt at hc
  split at hc
  · rename_i c ho
    split at hc
    · cases hc
    · split at hc
      · rename_i f hf2
        split at hc
        · rename_i k' vs' hk hvs
          cases hc
          obtain ⟨e2, k2⟩ := evls_ok hf _ _ hvs
          obtain ⟨u, hu, hk⟩ := Option.bind_eq_some_iff.1 hk
          exact ⟨⟨c, f, ho, hf2, by rw [(evl_eval hf hu).1, isFn_spec hk]; rfl, Array.ext' (by rw [Array.toList_map]; exact e2)⟩, k2⟩
        · cases hc
      · cases hc
  · cases hc
theorem callR_wp {k : Nat} {vs : List Value} {R : Value → HP → Prop} (hc : callAt tm o = some (k, vs)) (hr : CallR P k vs h R) (hw : WR B w0 m h w) (hf : FR m h.nb tm a) {Kw : Act → World → Prop}
    (hK : ∀ m' w' v h1, Ext m m' h.nb → h.nb ≤ h1.nb → FR m' h1.nb (putT tm o.dst v) (a.put o.dst (cT m' v)) → WR B w0 m' h1 w' → R v h1 → Kw (a.put o.dst (cT m' v)) w') : o.wp P a w Kw Qw := by
  obtain ⟨⟨c, f, ho, hcal, hev, hargs⟩, hok⟩ := callAt_spec (o := o) hf hc
  obtain ⟨⟨fn, f1, f2, f3⟩, hcall⟩ := hr
  have hrun : (execOp a.eval o).run P w = .ok (.enter k (vs.map (cT m)).toArray) w := by
    simp [execOp, ho, resolve, hcal, hev, hargs, Deferred.ofValue, invoke, callFunc, f1, Result.andThen]
    rw [if_neg (fun e => by rw [e] at f2; simp at f2), if_neg (fun e => by rw [e] at f3; cases f3)]
  unfold Oper.wp
  rw [hrun]
  refine (hcall B w0 m w hw hok).mono fun e w' ⟨m', v, h1, e1, e2, e3, e4, e5, e6⟩ => ?_
  subst e3
  exact hK m' w' v h1 e1 e2 ((hf.ext e1 e2).put e4) e5 e6
theorem none_ok' : HC P noneK := fun k vs h v h1 hx => by cases hx
theorem opR_text {cv : List Nat} : ∀ (l : List Nat) (tm : List Value) (h : HP) (K : List Value → HP → Prop), OpR P ops cv false D0 h0 l tm h K → ∀ m a w, FR m h.nb tm a → WR B w0 m h w →
    (∀ m' a' w' t g, Ext m m' h.nb → h.nb ≤ g.nb → FR m' g.nb t a' → WR B w0 m' g w' → K t g → Qw .normal a' w') → wpOps P ops Qw l a w
  | [], tm, h, K, hx, m, a, w, hf, hw, hQ => hQ m a w tm h Ext.refl (Nat.le_refl _) hf hw hx
  | i :: rest, tm, h, K, hx, m, a, w, hf, hw, hQ => by
    rw [wpOps_cons]
    unfold OpR at hx
    unfold wpOp
    split at hx
    · exact hx.elim
    · rename_i o ho
      rw [ho]
      dsimp only
      rw [xwant_ok hf] at hx
      split at hx
      · rename_i hwant
        rw [if_pos hwant]
        refine .inl ?_
        split at hx
        · split at hx
          · rename_i v D1 hl
            obtain ⟨k1, k2⟩ := light_run (P := P) hw.toHR hf hl
            unfold Oper.wp
            rw [k2 w (looks_of hw (lop_D hw.toHR hf hl))]
            exact opR_text rest _ h K hx.2 m _ w (hf.put k1) hw hQ
          · exact hx.elim
        · split at hx
          · rename_i k vs hcl
            refine callR_wp hcl hx hw hf fun m1 w1 v h1 e1 e2 e3 e4 e5 => ?_
            exact opR_text rest _ h1 K e5.2 m1 _ w1 e3 e4 fun m2 a2 w2 t g f1 f2 f3 f4 f5 => hQ m2 a2 w2 t g (e1.trans f1 e2) (by omega) f3 f4 f5
          · split at hx
            · rename_i v h1 hh
              refine heavy_wp none_ok' hw hf hh fun m1 w1 e1 e2 e3 e4 => ?_
              exact opR_text rest _ h1 K hx.2 m1 _ w1 e3 e4 fun m2 a2 w2 t g f1 f2 f3 f4 f5 => hQ m2 a2 w2 t g (e1.trans f1 e2) (by omega) f3 f4 f5
            · exact hx.elim
      · rename_i hwant
        rw [if_neg hwant]
        have hp := hf.put (dst := o.dst) (okT_undef (m := m))
        rw [cT_undef] at hp
        exact opR_text rest _ h K hx m _ w hp hw hQ
theorem CodeR.region {id : Nat} {tm : List Value} {Q : Exit → List Value → HP → Prop} (hx : OpR P ops [] false [] h (List.range ops.size) tm h (fun t g => Q .normal t g)) : CodeR P (.region id ops false) tm h Q := fun B w0 m a w hf hw =>
  wp_region (opR_text _ tm h _ hx m a w hf hw fun m' a' w' t g e1 e2 e3 e4 e5 => ⟨m', t, g, e1, e2, e3, e4, e5⟩)
theorem opR_draw (hsel : Region.noSelect ops = true) (hh0 : HR m0 h0) (hQp : ∀ c a w, ¬ Qw (.panic c) a w) {cv : List Nat} (hcv : cv.all (cov ops) = true) : ∀ (n : Nat) (listed : Array Bool) (s : List Nat), sched P ops n listed = some s →
    ∀ (tm : List Value) (h : HP) (K : List Value → HP → Prop), OpR P ops cv true D0 h0 s tm h K →
    ∀ m a w, Ext m0 m h0.nb → h0.nb ≤ h.nb → FR m h.nb tm a → WR B w0 m h w → ((AG D0 h0 h ∧ Looks m0 h0 w D0 ∧ tailOk P ops s = true) ∨ s.all (okAfter P ops) = true) →
    (∀ m' a' w' t g, Ext m m' h.nb → h.nb ≤ g.nb → FR m' g.nb t a' → WR B w0 m' g w' → K t g → Qw .normal a' w') → wpAX P ops Qw (fun w => Looks m0 h0 w D0) n listed a w
  | 0, listed, s, hs, tm, h, K, hx, m, a, w, he, hn, hf, hw, hst, hQ => by
    simp only [sched] at hs
    split at hs
    · rename_i hr
      cases hs
      exact ⟨hr, hQ m a w tm h Ext.refl (Nat.le_refl _) hf hw hx⟩
    · cases hs
  | n + 1, listed, s, hs, tm, h, K, hx, m, a, w, he, hn, hf, hw, hst, hQ => by
    have now : ∀ (i : Nat) (s2 : List Nat), s = i :: s2 → sched P ops n (listed.setIfInBounds i true) = some s2 →
        wpOp P ops Qw i (fun a' w' => (cov ops i = true ∨ (Looks m0 h0 w D0 → Looks m0 h0 w' D0)) ∧ wpAX P ops Qw (fun w => Looks m0 h0 w D0) n (listed.setIfInBounds i true) a' w') a w ∧
        (lightAt P ops i = true → ∃ o v, ops[i]? = some o ∧ YieldsIf P ops (fun w => loadK o = true → Looks m0 h0 w D0) o v a ∧ (loadK o = true → Looks m0 h0 w D0) ∧ wpAX P ops Qw (fun w => Looks m0 h0 w D0) n (listed.setIfInBounds i true) (a.put o.dst v) w) := by
      intro i s2 es hs2
      subst es
      unfold OpR at hx
      split at hx
      · exact hx.elim
      · rename_i o ho
        have hla := lightAt_of (P := P) ho
        have hlo := loadAt_of ho
        have step : ∀ (m1 : Nat → MB) (h1 : HP) (w1 : World), Ext m m1 h.nb → h.nb ≤ h1.nb → WR B w0 m1 h1 w1 → lightAt P ops i = false → (cv.contains i = true ∨ AG D0 h0 h1) →
            (cov ops i = true ∨ (Looks m0 h0 w D0 → Looks m0 h0 w1 D0)) ∧ ((AG D0 h0 h1 ∧ Looks m0 h0 w1 D0 ∧ tailOk P ops s2 = true) ∨ s2.all (okAfter P ops) = true) := fun m1 h1 w1 e1 e2 e4 hlf hag => by
          have hn1 : h0.nb ≤ h1.nb := Nat.le_trans hn e2
          have he1 : Ext m0 m1 h0.nb := he.trans e1 hn
          rcases hag with hct | hag
          · have hcv1 : cov ops i = true := List.all_eq_true.1 hcv i (by simpa using hct)
            refine ⟨.inl hcv1, .inr ?_⟩
            rcases hst with ⟨q1, q2, q3⟩ | q
            · unfold tailOk at q3
              rw [hlf, hcv1] at q3
              simpa using q3
            · rw [List.all_cons, Bool.and_eq_true] at q
              exact q.2
          · have hL := hag.back hh0 he1 hn1 e4
            refine ⟨.inr fun _ => hL, ?_⟩
            rcases hst with ⟨q1, q2, q3⟩ | q
            · unfold tailOk at q3
              rw [hlf] at q3
              cases hcv1 : cov ops i with
              | true =>
                rw [hcv1] at q3
                exact .inr (by simpa using q3)
              | false =>
                rw [hcv1] at q3
                exact .inl ⟨hag, hL, by simpa using q3⟩
            · rw [List.all_cons, Bool.and_eq_true] at q
              exact .inr q.2
        rw [xwant_ok hf] at hx
        split at hx
        · rename_i hwant
          split at hx
          · rename_i hlk
            split at hx
            · rename_i v D1 hl
              obtain ⟨hD, hx2⟩ := hx
              obtain ⟨k1, k2, k3⟩ := lop_ok (P := P) hw.toHR hf hl
              have hst2 : (AG D0 h0 h ∧ Looks m0 h0 w D0 ∧ tailOk P ops s2 = true) ∨ s2.all (okAfter P ops) = true := by
                rcases hst with ⟨q1, q2, q3⟩ | q
                · refine .inl ⟨q1, q2, ?_⟩
                  unfold tailOk at q3
                  rw [hla, hlk] at q3
                  simpa using q3
                · rw [List.all_cons, Bool.and_eq_true] at q
                  exact .inr q.2
              have hrest := opR_draw hsel hh0 hQp hcv n _ s2 hs2 _ h K hx2 m _ w he hn (hf.put k1) hw hst2 hQ
              have hld : loadK o = true → AG D0 h0 h ∧ Looks m0 h0 w D0 := fun hl2 => by
                rcases hst with ⟨q1, q2, q3⟩ | q
                · exact ⟨q1, q2⟩
                · rw [List.all_cons, Bool.and_eq_true] at q
                  have := q.1
                  unfold okAfter at this
                  rw [hla, hlk, hlo, hl2] at this
                  simp at this
              have hrun : (execOp a.eval o).run P w = .ok (.value (cT m v)) w := k3 w (looks_of hw (lop_D hw.toHR hf hl))
              refine ⟨?_, fun _ => ⟨o, cT m v, ho, .inl ⟨hwant, fun w' hS => ?_⟩, fun hl2 => (hld hl2).2, hrest⟩⟩
              · unfold wpOp
                rw [ho]
                dsimp only
                rw [if_pos hwant]
                refine .inl ?_
                unfold Oper.wp
                rw [hrun]
                exact ⟨.inr id, hrest⟩
              · by_cases hl2 : loadK o = true
                · exact k3 w' ((hld hl2).1.looks hh0 he hn (hD rfl) (hS hl2))
                · rw [k2 (by simpa using hl2)] at k3
                  exact k3 w' (fun p hp => by simp at hp)
            · exact hx.elim
          · rename_i hlk
            have hlf : lightAt P ops i = false := by rw [hla]; simpa using hlk
            split at hx
            · rename_i k vs hcl
              refine ⟨?_, fun hl2 => by rw [hla] at hl2; exact absurd hl2 hlk⟩
              unfold wpOp
              rw [ho]
              dsimp only
              rw [if_pos hwant]
              refine .inl (callR_wp hcl hx hw hf fun m1 w1 v h1 e1 e2 e3 e4 e5 => ?_)
              obtain ⟨s1, s3⟩ := step m1 h1 w1 e1 e2 e4 hlf (e5.1 rfl)
              exact ⟨s1, opR_draw hsel hh0 hQp hcv n _ s2 hs2 _ h1 K e5.2 m1 _ w1 (he.trans e1 hn) (Nat.le_trans hn e2) e3 e4 s3 fun m2 a2 w2 t g f1 f2 f3 f4 f5 => hQ m2 a2 w2 t g (e1.trans f1 e2) (by omega) f3 f4 f5⟩
            · split at hx
              · rename_i v h1 hh
                refine ⟨?_, fun hl2 => by rw [hla] at hl2; exact absurd hl2 hlk⟩
                unfold wpOp
                rw [ho]
                dsimp only
                rw [if_pos hwant]
                refine .inl (heavy_wp none_ok' hw hf hh fun m1 w1 e1 e2 e3 e4 => ?_)
                obtain ⟨s1, s3⟩ := step m1 h1 w1 e1 e2 e4 hlf (hx.1 rfl)
                exact ⟨s1, opR_draw hsel hh0 hQp hcv n _ s2 hs2 _ h1 K hx.2 m1 _ w1 (he.trans e1 hn) (Nat.le_trans hn e2) e3 e4 s3 fun m2 a2 w2 t g f1 f2 f3 f4 f5 => hQ m2 a2 w2 t g (e1.trans f1 e2) (by omega) f3 f4 f5⟩
              · exact hx.elim
        · rename_i hwant
          have hp := hf.put (dst := o.dst) (okT_undef (m := m))
          rw [cT_undef] at hp
          have hst2 : (AG D0 h0 h ∧ Looks m0 h0 w D0 ∧ tailOk P ops s2 = true) ∨ s2.all (okAfter P ops) = true := by
            rcases hst with ⟨q1, q2, q3⟩ | q
            · unfold tailOk at q3
              split at q3
              · exact .inl ⟨q1, q2, q3⟩
              · exact .inr q3
            · rw [List.all_cons, Bool.and_eq_true] at q
              exact .inr q.2
          have hrest := opR_draw hsel hh0 hQp hcv n _ s2 hs2 _ h K hx m _ w he hn hp hw hst2 hQ
          refine ⟨?_, fun hl2 => ⟨o, undef, ho, .inr ⟨by simpa using hwant, rfl⟩, fun hl3 => ?_, hrest⟩⟩
          · unfold wpOp
            rw [ho]
            dsimp only
            rw [if_neg hwant]
            exact ⟨.inr id, hrest⟩
          · rcases hst with ⟨q1, q2, q3⟩ | q
            · exact q2
            · rw [List.all_cons, Bool.and_eq_true] at q
              have := q.1
              unfold okAfter at this
              rw [hl2, hlo, hl3] at this
              simp at this
    simp only [sched] at hs
    split at hs
    · rename_i hr
      cases hs
      exact ⟨fun _ => hQ m a w tm h Ext.refl (Nat.le_refl _) hf hw hx, by rw [hr]; simp⟩
    · rename_i hr
      split at hs
      · rename_i i hfi
        split at hs
        · rename_i s2 hs2
          cases hs
          have hmem := List.mem_of_find?_eq_some hfi
          have hp := List.find?_some hfi
          simp only [Bool.and_eq_true] at hp
          obtain ⟨-, hlt⟩ := now i s2 rfl hs2
          obtain ⟨o, v, ho, hy, hS, hrest⟩ := hlt hp.1
          exact wpAX_first ho (Region.noSelect_spec hsel) (fun c a w hq => absurd hq (hQp c _ w)) n listed a w (Region.free_spec ho hp.2) hmem hy hS hrest
        · cases hs
      · split at hs
        · rename_i i hri
          split at hs
          · rename_i s2 hs2
            cases hs
            refine ⟨fun h0 => (by rw [hri] at h0; cases h0), fun j hj => ?_⟩
            rw [hri] at hj
            obtain rfl : j = i := by simpa using hj
            exact (now j s2 rfl hs2).1
          · cases hs
        · cases hs
/-- A region whose order is left open: the order s is one that serves; D0: the cells that it loads. -/
theorem CodeR.drawn {id : Nat} {tm : List Value} {Q : Exit → List Value → HP → Prop} (hm : P.follows .mixedOrders = true) (s cv : List Nat) (D0 : List (Nat × Nat))
    (hok : (Region.noSelect ops && tailOk P ops s && cv.all (cov ops) && decide (sched P ops ops.size (Array.replicate ops.size false) = some s)) = true) (hD : AG D0 h h)
    (hx : OpR P ops cv true D0 h s tm h (fun t g => Q .normal t g)) : CodeR P (.region id ops true) tm h Q := fun B w0 m a w hf hw => by
  simp only [Bool.and_eq_true, decide_eq_true_eq] at hok
  obtain ⟨⟨⟨hsel, ht⟩, hcv⟩, hs⟩ := hok
  have hL : Looks m h w D0 := looks_of hw fun p hp => by
    obtain ⟨u, hu, -⟩ := sameAt_spec (hD p hp)
    exact ⟨u, hu⟩
  have hwd : WR B w0 m h ({ w with drawn := w.drawn + 1 } : World) := hw.drew
  have hLd : Looks m h ({ w with drawn := w.drawn + 1 } : World) D0 := hL
  refine wp_mono (wp_region_any (Q := fun e a' w' => match e with | .normal => ∃ m' tm' h', Ext m m' h.nb ∧ h.nb ≤ h'.nb ∧ FR m' h'.nb tm' a' ∧ WR B w0 m' h' w' ∧ Q .normal tm' h' | _ => False) hm
    (wpAX_any _ _ _ _ (opR_draw (D0 := D0) hsel hw.toHR (fun _ _ _ h => h) hcv _ _ s hs tm h _ hx m a _ Ext.refl (Nat.le_refl _) hf hwd (.inl ⟨hD, hLd, ht⟩) fun m' a' w' t g e1 e2 e3 e4 e5 => ⟨m', t, g, e1, e2, e3, e4, e5⟩))) fun e a w hq => ?_
  cases e with
  | normal => exact hq
  | _ => exact hq.elim
/-- A function's body. -/
theorem CallR.of_body {k : Nat} {fn : Func} {c : Code} {vs : List Value} {R : Value → HP → Prop} (hfn : P.funcs[k]? = some fn) (hn : (fn.name == "runtime.NumGoroutine") = false) (hb : fn.body = some c)
    (hx : CodeR P c (vs ++ List.replicate (fn.ntmps - vs.length) undef) h fun e t g => (e = .normal ∨ e = .ret) ∧ ∃ us, xres P t g fn.results.toList = some us ∧ ((∃ v, us = [v] ∧ R v g) ∨ (us.length ≠ 1 ∧ us.all noTup = true ∧ R (.tuple us.toArray) g))) : CallR P k vs h R := by
  refine ⟨⟨fn, hfn, hn, by rw [hb]; rfl⟩, fun B w0 m w hw hk => calls_of_wp hfn hb ?_⟩
  have hf : FR m h.nb (vs ++ List.replicate (fn.ntmps - vs.length) undef) { tmps := (vs.map (cT m)).toArray ++ Array.replicate (fn.ntmps - (vs.map (cT m)).toArray.size) undef, defers := [] } :=
    ⟨by simp [List.map_append, cT_undef], rfl, fun u hu => by
      rcases List.mem_append.1 hu with hu | hu
      · exact hk u hu
      · rw [(List.mem_replicate.1 hu).2]; exact okT_undef⟩
  refine wp_mono (hx B w0 m _ w hf hw) fun e a' w' ⟨m', t, g, e1, e2, e3, e4, he, us, hus, hR⟩ => ?_
  have key : ∃ v, (results fn a'.tmps).run P w' = .ok (cT m' v) w' ∧ okT m' g.nb v ∧ R v g := by
    rcases hR with ⟨v, rfl, hR⟩ | ⟨hl, hall, hR⟩
    · obtain ⟨-, r1, r2⟩ := results_ok (P := P) (fn := fn) (v := v) (h1 := g) e4.toHR e3 e4 (by rw [hus])
      exact ⟨v, r1, r2, hR⟩
    · obtain ⟨-, r1, r2⟩ := results_ok (P := P) (fn := fn) (v := .tuple us.toArray) (h1 := g) e4.toHR e3 e4 (by
        rw [hus]
        match us, hl with
        | [], _ => rfl
        | [_], hl => exact absurd rfl hl
        | _ :: _ :: _, _ => dsimp only; rw [if_pos hall])
      exact ⟨_, r1, r2, hR⟩
  obtain ⟨v, r1, r2, r3⟩ := key
  rcases he with rfl | rfl <;> exact ⟨e3.d, _, r1, m', v, g, e1, e2, rfl, r2, e4, r3⟩
end
end Go.Proofs.YteeanpfhngoobaaGreat.Xk
namespace Go.Proofs.YteeanpfhngoobaaGreat.Xk
open Go.RowKit

section
variable {P : Program} {h : HP} {tm : List Value} {x y : Operand} {t yt type : TypeId} {k : IntKind} {a b : Int} {dst : Option Tmp} {pos : String} {after : Array Edge} {guard : Option (Nat × Bool)}
theorem pur_bind {α β : Type} (s : Sem α) (f : α → Sem β) : pur P (s >>= f) = (pur P s).bind fun a => pur P (f a) := by
  show pur P (s.bind f) = _
  induction s with
  | pure a => rfl
  | program k ih => exact ih P
  | mark m k ih => exact ih
  | _ => rfl
theorem pur_pure {α : Type} (a : α) : pur P (Pure.pure a : Sem α) = some a := rfl
theorem lpure_is {o : Oper} {v : Value} (hn : noSel o.op = true) (ho : (o.op.operands.toList.all fun x => match evl tm x with | some v => scal v | none => false) = true) (hr : pur P (execOp (pev tm) o) = some (.value v)) (hs : scal v = true) : lpure P tm o = some (v, []) := by
  unfold lpure
  refine (if_pos ?_).trans ?_
  · rw [hn, Bool.true_and]
    exact ho
  · rw [hr]
    exact if_pos hs
/-- Two numbers. -/
theorem lop_bin {op : BinOp} {v : Value} (hx : evl tm x = some (.int k a)) (hy : evl tm y = some (.int k b)) (hr : pur P (Go.binOp op t (.int k a) (.int k b)) = some v) (hs : scal v = true) :
    lop P tm h ⟨dst, .binOp op t x y yt, type, pos, after, guard⟩ = some (v, []) := by
  have hr2 : pur P (execOp (pev tm) ⟨dst, .binOp op t x y yt, type, pos, after, guard⟩) = some (.value v) := by
    show pur P ((do eqGuard op t x y (pev tm x) (pev tm y); Go.binOp op t (pev tm x) (pev tm y) : Sem Value) >>= fun v => pure (Next.value v)) = _
    rw [show pev tm x = .int k a by simp [pev, hx], show pev tm y = .int k b by simp [pev, hy]]
    have : eqGuard op t x y (.int k a) (.int k b) = pure () := by
      unfold eqGuard
      cases op <;> rfl
    rw [this]
    simp only [pur_bind, pur_pure, Option.bind_some, hr]
  have hn : ((evl tm x).bind fun a => (evl tm y).bind fun b => nilEq P op t a b) = none := by rw [hx, hy]; rfl
  show (match (evl tm x).bind fun a => (evl tm y).bind fun b => nilEq P op t a b with | some z => some (Value.bool z, []) | none => lpure P tm _) = _
  rw [hn]
  exact lpure_is rfl (by simp [Op.operands, hx, hy, scal]) hr2 hs
theorem lop_lss (hx : evl tm x = some (.int k a)) (hy : evl tm y = some (.int k b)) : lop P tm h ⟨dst, .binOp .lss t x y yt, type, pos, after, guard⟩ = some (.bool (decide (a < b)), []) := lop_bin hx hy (by simp [Go.binOp, Op.intCmp, pur_pure]) rfl
theorem lop_leq (hx : evl tm x = some (.int k a)) (hy : evl tm y = some (.int k b)) : lop P tm h ⟨dst, .binOp .leq t x y yt, type, pos, after, guard⟩ = some (.bool (decide (a ≤ b)), []) := lop_bin hx hy (by simp [Go.binOp, Op.intCmp, pur_pure]) rfl
theorem lop_gtr (hx : evl tm x = some (.int k a)) (hy : evl tm y = some (.int k b)) : lop P tm h ⟨dst, .binOp .gtr t x y yt, type, pos, after, guard⟩ = some (.bool (decide (b < a)), []) := lop_bin hx hy (by simp [Go.binOp, Op.intCmp, pur_pure]) rfl
theorem lop_geq (hx : evl tm x = some (.int k a)) (hy : evl tm y = some (.int k b)) : lop P tm h ⟨dst, .binOp .geq t x y yt, type, pos, after, guard⟩ = some (.bool (decide (b ≤ a)), []) := lop_bin hx hy (by simp [Go.binOp, Op.intCmp, pur_pure]) rfl
theorem lop_eql (hx : evl tm x = some (.int k a)) (hy : evl tm y = some (.int k b)) : lop P tm h ⟨dst, .binOp .eql t x y yt, type, pos, after, guard⟩ = some (.bool (a == b), []) := lop_bin hx hy (by simp [Go.binOp, Op.intCmp, pur_pure]) rfl
theorem lop_neq (hx : evl tm x = some (.int k a)) (hy : evl tm y = some (.int k b)) : lop P tm h ⟨dst, .binOp .neq t x y yt, type, pos, after, guard⟩ = some (.bool (a != b), []) := lop_bin hx hy (by simp [Go.binOp, Op.intCmp, pur_pure]) rfl
theorem lop_add (hx : evl tm x = some (.int k a)) (hy : evl tm y = some (.int k b)) : lop P tm h ⟨dst, .binOp .add t x y yt, type, pos, after, guard⟩ = some (.int k (k.wrap (a + b)), []) := lop_bin hx hy (by simp [Go.binOp, Op.intArith, pur_pure]) rfl
theorem lop_sub (hx : evl tm x = some (.int k a)) (hy : evl tm y = some (.int k b)) : lop P tm h ⟨dst, .binOp .sub t x y yt, type, pos, after, guard⟩ = some (.int k (k.wrap (a - b)), []) := lop_bin hx hy (by simp [Go.binOp, Op.intArith, pur_pure]) rfl
theorem lop_not {z : Bool} (hx : evl tm x = some (.bool z)) : lop P tm h ⟨dst, .unOp .not t x, type, pos, after, guard⟩ = some (.bool !z, []) := by
  have hr2 : pur P (execOp (pev tm) ⟨dst, .unOp .not t x, type, pos, after, guard⟩) = some (.value (.bool !z)) := by
    show pur P (Op.unary .not (pev tm x) >>= fun v => pure (Next.value v)) = _
    rw [show pev tm x = .bool z by simp [pev, hx]]
    simp [Op.unary, pur_bind, pur_pure]
  exact lpure_is rfl (by simp [Op.operands, hx, scal]) hr2 rfl
/-- A cell that is loaded. -/
theorem lop_load {d : TypeDesc} {i : TypeInfo} {bl off : Nat} {v : Value} (hu : P.underlying t = some d) (hd : aggD d = false) (hi : P.info? t = some i) (hx : evl tm x = some (.pointer (some ⟨bl, off, none⟩))) (hr : h.read bl off 1 = some [v]) :
    lop P tm h ⟨dst, .load t x, type, pos, after, guard⟩ = some (v, [(bl, off)]) := by
  unfold lop
  dsimp only
  rw [hu, hi, hx]
  dsimp only
  rw [hd, hr]
  rfl
theorem lop_loads {d : TypeDesc} {i : TypeInfo} {bl off : Nat} {cs : List Value} (hu : P.underlying t = some d) (hd : aggD d = true) (hi : P.info? t = some i) (hx : evl tm x = some (.pointer (some ⟨bl, off, none⟩))) (hr : h.read bl off i.size = some cs) :
    lop P tm h ⟨dst, .load t x, type, pos, after, guard⟩ = some (.agg cs.toArray, rng bl off i.size) := by
  unfold lop
  dsimp only
  rw [hu, hi, hx]
  dsimp only
  rw [hd, hr]
  rfl
end
end Go.Proofs.YteeanpfhngoobaaGreat.Xk
