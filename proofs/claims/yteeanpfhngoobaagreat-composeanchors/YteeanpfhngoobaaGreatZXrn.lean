/- A run that is reckoned is a run of the program: code, and calls. -/
import Derived.Test.YteeanpfhngoobaaGreatZXrd
set_option linter.all false
namespace Go.Proofs.YteeanpfhngoobaaGreat.Xk
open Go.RowKit

section
variable {m : Nat → MB} {tm : List Value} {a : Act} {P : Program} {h h1 : HP} {w w0 : World} {B : Nat} {Q : Exit → Act → World → Prop}
theorem wp_loopN {c : Code} (I : Nat → Act → World → Prop) (h0 : ∀ a w, ¬ I 0 a w) (round : ∀ n a w, I (n + 1) a w → c.wp P (Exit.then (I n) Q) a w) (n : Nat) (hI : I n a w) : (Code.loop c).wp P Q a w := by
  intro b k cs
  have key : ∀ n a w, I n a w → ∃ e a' w', Q e a' w' ∧ Arrives P (lone (b.at a (.code c :: .inLoop c :: k)) cs w) b k cs e a' w' := by
    intro n
    induction n with
    | zero => exact fun a w hI => absurd hI (h0 a w)
    | succ n ih =>
      intro a w hI
      obtain ⟨e, a1, w1, hq, harr⟩ := round n a w hI b (.inLoop c :: k) cs
      cases e with
      | normal =>
        obtain ⟨e2, a2, w2, hq2, harr2⟩ := ih a1 w1 hq
        exact ⟨e2, a2, w2, hq2, .of_steps (Steps.trans harr (.one step_inLoop)) harr2⟩
      | outgrown => exact ⟨_, a1, w1, hq, .pass (x := .inLoop c) rfl (fun _ _ => .inl (by simp)) harr⟩
      | _ => exact ⟨_, a1, w1, hq, .pass (x := .inLoop c) rfl (fun _ _ => .inl (by simp)) harr⟩
  obtain ⟨e, a', w', hq, harr⟩ := key n a w hI
  exact ⟨e, a', w', hq, .of_steps (.one step_loop) harr⟩
theorem xcode_ok {call : Nat → List Value → HP → Option (Value × HP)} (hc : HC P call) (hm : P.follows .mixedOrders = true) {T : Nat → Option (List Nat × List Nat)} : ∀ (n : Nat) (c : Code) (tm : List Value) (h : HP) (e : Exit) (tm' : List Value) (h' : HP), codeOk P T c = true → xcode P call T n c tm h = some (e, tm', h') →
    ∀ (Q : Exit → Act → World → Prop) m a w, FR m h.nb tm a → WR B w0 m h w → (∀ m' a' w', Ext m m' h.nb → h.nb ≤ h'.nb → FR m' h'.nb tm' a' → WR B w0 m' h' w' → Q e a' w') → c.wp P Q a w := by
  intro n
  induction n using Nat.strongRecOn with
  | _ n ih =>
    intro c tm h e tm' h' hT hx Q m a w hf hw hQ
    cases n with
    | zero => cases hx
    | succ n =>
      unfold xcode at hx
      split at hx
      · cases hx
        exact wp_skip (hQ m a w Ext.refl (Nat.le_refl _) hf hw)
      · cases hx
        exact wp_ret (hQ m a w Ext.refl (Nat.le_refl _) hf hw)
      · cases hx
        exact wp_exit (hQ m a w Ext.refl (Nat.le_refl _) hf hw)
      · rename_i x y
        refine wp_seq ?_
        simp only [codeOk, Bool.and_eq_true] at hT
        split at hx
        · rename_i tm1 h1 hx1
          refine ih n (by omega) x tm h _ _ _ hT.1 hx1 _ m a w hf hw fun m1 a1 w1 e1 e2 e3 e4 => ?_
          exact ih n (by omega) y tm1 h1 _ _ _ hT.2 hx Q m1 a1 w1 e3 e4 fun m2 a2 w2 f1 f2 f3 f4 => hQ m2 a2 w2 (e1.trans f1 e2) (by omega) f3 f4
        · rename_i hne
          refine ih n (by omega) x tm h _ _ _ hT.1 hx _ m a w hf hw fun m1 a1 w1 e1 e2 e3 e4 => ?_
          have := hQ m1 a1 w1 e1 e2 e3 e4
          cases e with
          | normal => exact absurd hx (hne _ _)
          | _ => exact this
      · rename_i x t f
        split at hx
        · rename_i b hb
          refine wp_cond (evl_eval hf hb).1 ?_
          simp only [codeOk, Bool.and_eq_true] at hT
          exact ih n (by omega) _ tm h _ _ _ (by cases b <;> simp [hT]) hx Q m a w hf hw hQ
        · cases hx
      · rename_i id body
        refine wp_block ?_
        split at hx
        · rename_i i tm1 h1 hx1
          refine ih n (by omega) body tm h _ _ _ hT hx1 _ m a w hf hw fun m1 a1 w1 e1 e2 e3 e4 => ?_
          unfold Exit.inBlock
          dsimp only
          split at hx
          · rename_i hid
            cases hx
            rw [if_pos hid]
            exact hQ m1 a1 w1 e1 e2 e3 e4
          · rename_i hid
            cases hx
            rw [if_neg hid]
            exact hQ m1 a1 w1 e1 e2 e3 e4
        · rename_i hne
          refine ih n (by omega) body tm h _ _ _ hT hx _ m a w hf hw fun m1 a1 w1 e1 e2 e3 e4 => ?_
          have := hQ m1 a1 w1 e1 e2 e3 e4
          cases e with
          | exit i => exact absurd hx (hne _ _ _)
          | _ => exact this
      · rename_i body
        refine wp_loopN (fun k a w => ∃ m1 tm1 h1, k ≤ n + 1 ∧ xcode P call T k (.loop body) tm1 h1 = some (e, tm', h') ∧ Ext m m1 h.nb ∧ h.nb ≤ h1.nb ∧ FR m1 h1.nb tm1 a ∧ WR B w0 m1 h1 w) (fun a w hI => ?_) (fun k a w hI => ?_) (n + 1) ⟨m, tm, h, Nat.le_refl _, by unfold xcode; exact hx, Ext.refl, Nat.le_refl _, hf, hw⟩
        · obtain ⟨m1, tm1, h1, -, hx1, -⟩ := hI
          cases hx1
        · obtain ⟨m1, tm1, h1, hk, hx1, g1, g2, g3, g4⟩ := hI
          unfold xcode at hx1
          dsimp only at hx1
          split at hx1
          · rename_i tm2 h2 hx2
            refine ih k (by omega) body tm1 h1 _ _ _ hT hx2 _ m1 a w g3 g4 fun m2 a2 w2 e1 e2 e3 e4 => ?_
            exact ⟨m2, tm2, h2, by omega, hx1, g1.trans e1 g2, by omega, e3, e4⟩
          · rename_i hne
            refine ih k (by omega) body tm1 h1 _ _ _ hT hx1 _ m1 a w g3 g4 fun m2 a2 w2 e1 e2 e3 e4 => ?_
            have := hQ m2 a2 w2 (g1.trans e1 g2) (by omega) e3 e4
            cases e with
            | normal => exact absurd hx1 (hne _ _)
            | _ => exact this
      · rename_i id ops
        split at hx
        · rename_i tm1 h1 D H hx1
          cases hx
          exact wp_region (xops_ok hc _ _ tm h _ _ _ _ hx1 m a w hf hw hQ)
        · cases hx
      · rename_i id ops
        split at hx
        · rename_i s cv hts
          simp only [codeOk, hts, Bool.and_eq_true, decide_eq_true_eq] at hT
          obtain ⟨⟨⟨hsel, ht⟩, hcv⟩, hs⟩ := hT
          split at hx
          · rename_i tm1 h1 D H hx1
            split at hx
            · rename_i hchk
              cases hx
              simp only [List.all_eq_true] at hchk
              have hA : ∀ g, g = h ∨ g ∈ H → AG D h g := fun g hg p hp => hchk g (by rcases hg with rfl | hg <;> simp [*]) p hp
              have hL : Looks m h w D := looks_of hw fun p hp => by
                obtain ⟨u, hu, -⟩ := sameAt_spec (hA h (.inl rfl) p hp)
                exact ⟨u, hu⟩
              have hwd : WR B w0 m h ({ w with drawn := w.drawn + 1 } : World) := hw.drew
              have hLd : Looks m h ({ w with drawn := w.drawn + 1 } : World) D := hL
              refine wp_mono (wp_region_any (Q := fun e a w => match e with | .normal => Q .normal a w | _ => False) hm (wpAX_any _ _ _ _ (xdraw_ok (D0 := D) hc hsel hw.toHR (fun _ _ _ h => h) hcv _ _ s hs tm h _ _ _ _ hx1 (fun _ h => h) (fun g hg => hA g (.inr hg)) m a _ Ext.refl (Nat.le_refl _) hf hwd (.inl ⟨hA h (.inl rfl), hLd, ht⟩) hQ))) fun e a w hq => ?_
              cases e with
              | normal => exact hq
              | _ => exact hq.elim
            · cases hx
          · cases hx
        · cases hx
      · cases hx
/-- The functions that may be called. -/
def Fns (P : Program) (F : Nat → Option Func) (T : Nat → Nat → Option (List Nat × List Nat)) : Prop :=
  ∀ k fn, F k = some fn → P.funcs[k]? = some fn ∧ (fn.name == "runtime.NumGoroutine") = false ∧ ∀ c, fn.body = some c → codeOk P (T k) c = true
def resOf (tmps : Array Value) : ResultVar → Sem Value
  | .tmp t => pure (tmps.getD t undef)
  | .cell b t => do loadVar t (← asAddr (tmps.getD b undef))
theorem results_eq (fn : Func) (tmps : Array Value) : results fn tmps = (do let vs ← fn.results.mapM (resOf tmps); pure (if h : vs.size = 1 then vs[0] else .tuple vs)) := by
  unfold results
  congr 1
theorem xres_ok (hh : HR m h) (hf : FR m h.nb tm a) (hw : WR B w0 m h w) : ∀ (rs : List ResultVar) (vs : List Value), xres P tm h rs = some vs →
    (rs.mapM (m := Sem) (resOf a.tmps)).run P w = .ok (vs.map (cT m)) w ∧ ∀ v ∈ vs, okT m h.nb v
  | [], vs, hx => by
    simp only [xres, Option.some.injEq] at hx
    subst hx
    exact ⟨by simp, by simp⟩
  | .tmp t :: rs, vs, hx => by
    simp only [xres] at hx
    split at hx
    · rename_i us hus
      cases hx
      obtain ⟨e, k⟩ := xres_ok hh hf hw rs us hus
      obtain ⟨e1, k1⟩ := evl_eval hf (x := .tmp t) (v := tm.getD t undef) rfl
      have e2 : a.tmps.getD t undef = cT m (tm.getD t undef) := e1
      refine ⟨?_, fun v hv => ?_⟩
      · rw [List.mapM_cons]
        simp only [resOf, Sem.run_bind, Sem.run_pure, Result.andThen, e, e2, List.map_cons]
      · rcases List.mem_cons.1 hv with rfl | hv
        · exact k1
        · exact k v hv
    · cases hx
  | .cell b t :: rs, vs, hx => by
    simp only [xres] at hx
    split at hx
    · rename_i d i b' off hd hi hb
      split at hx
      · rename_i v D us hl hus
        cases hx
        obtain ⟨e, k⟩ := xres_ok hh hf hw rs us hus
        obtain ⟨e1, k1⟩ := evl_eval hf (x := .tmp b) (v := tm.getD b undef) rfl
        have e2 : a.tmps.getD b undef = cT m (tm.getD b undef) := e1
        rw [hb, cT_ptr] at e2
        obtain ⟨q1, q2⟩ := loadVar_okA hh (b := b') (o := off) (n := i.size) hl
        have hD : ∀ p ∈ D, ∃ u, h.read p.1 p.2 1 = some [u] := by
          split at hl
          · split at hl
            · rename_i cs hr
              cases hl
              intro p hp
              obtain ⟨j, hj, rfl⟩ := List.mem_map.1 hp
              obtain ⟨u, -, hu⟩ := read_one hr (List.mem_range.1 hj)
              exact ⟨u, hu⟩
            · cases hl
          · split at hl
            · rename_i u hr
              cases hl
              intro p hp
              obtain rfl : p = _ := by simpa using hp
              exact ⟨_, hr⟩
            · cases hl
        have hlv := loadVar_ok (P := P) (w := w) hh hd hi hl (looks_of hw hD)
        refine ⟨?_, fun u hu => ?_⟩
        · rw [List.mapM_cons]
          have hA : (asAddr (a.tmps.getD b undef)).run P w = .ok (ca m b' off) w := by rw [e2]; rfl
          have hR : (resOf a.tmps (.cell b t)).run P w = .ok (cA m v) w := by
            unfold resOf
            simp only [Sem.run_bind, hA, Result.andThen, hlv]
          simp only [Sem.run_bind, Sem.run_pure, Result.andThen, e, hR, List.map_cons, q2]
        · rcases List.mem_cons.1 hu with rfl | hu
          · exact q1
          · exact k u hu
      · cases hx
    · cases hx
theorem results_ok {fn : Func} {v : Value} (hh : HR m h) (hf : FR m h.nb tm a) (hw : WR B w0 m h w)
    (hx : (match xres P tm h fn.results.toList with | some [v] => some (v, h) | some vs => if vs.all noTup then some (.tuple vs.toArray, h) else none | none => none) = some (v, h1)) :
    h1 = h ∧ (results fn a.tmps).run P w = .ok (cT m v) w ∧ okT m h.nb v := by
  have key : ∀ vs, xres P tm h fn.results.toList = some vs → (results fn a.tmps).run P w = .ok (if hs : (vs.map (cT m)).toArray.size = 1 then (vs.map (cT m)).toArray[0] else .tuple (vs.map (cT m)).toArray) w ∧ ∀ v ∈ vs, okT m h.nb v := fun vs hvs => by
    obtain ⟨e, k⟩ := xres_ok (P := P) hh hf hw _ vs hvs
    refine ⟨?_, k⟩
    rw [results_eq]
    simp only [Sem.run_bind]
    rw [show fn.results = fn.results.toList.toArray by simp, List.mapM_toArray]
    simp only [Sem.run_map, e, Result.andThen, Sem.run_pure]
  split at hx
  · rename_i u hu
    cases hx
    obtain ⟨e, k⟩ := key _ hu
    exact ⟨rfl, by simpa using e, k v (by simp)⟩
  · rename_i vs hne hvs
    split at hx
    · rename_i hall
      cases hx
      obtain ⟨e, k⟩ := key _ hvs
      simp only [List.all_eq_true] at hall
      have hA : ∀ u ∈ vs, okT m h.nb u = okA m h.nb u ∧ cT m u = cA m u := fun u hu => okT_cell m h.nb fun cs e => by
        have := hall u hu
        rw [e] at this
        cases this
      refine ⟨rfl, ?_, fun u hu => ?_⟩
      · rw [e, dif_neg (fun h1 => by
          simp only [List.size_toArray, List.length_map] at h1
          obtain ⟨x, rfl⟩ := List.length_eq_one_iff.1 h1
          exact hne x rfl)]
        rw [cT_tup]
        congr 2
        rw [List.map_toArray]
        congr 1
        exact List.map_congr_left fun u hu => (hA u hu).2
      · have hu' : u ∈ vs := by simpa using hu
        have := k u hu'
        rwa [(hA u hu').1] at this
    · cases hx
  · cases hx
theorem xcall_ok {F : Nat → Option Func} {T : Nat → Nat → Option (List Nat × List Nat)} (hF : Fns P F T) (hm : P.follows .mixedOrders = true) {O : Nat → List Value → HP → Option (Value × HP)} (hO : HC P O) (L : Nat) : ∀ n, HC P (xcall P F T O L n)
  | 0 => fun k vs h v h1 hx => by cases hx
  | n + 1 => fun k vs h v h1 hx => by
    unfold xcall at hx
    split at hx
    · rename_i r hr
      cases hx
      exact hO k vs h v h1 hr
    split at hx
    · cases hx
    · rename_i fn hfn
      obtain ⟨f1, f2, f3⟩ := hF k fn hfn
      split at hx
      · cases hx
      · rename_i c hb
        refine ⟨⟨fn, f1, f2, by rw [hb]; rfl⟩, fun B w0 m w hw hok => ?_⟩
        refine calls_of_wp f1 hb ?_
        have hf : FR m h.nb (vs ++ List.replicate (fn.ntmps - vs.length) undef) { tmps := (vs.map (cT m)).toArray ++ Array.replicate (fn.ntmps - (vs.map (cT m)).toArray.size) undef, defers := [] } :=
          ⟨by simp [List.map_append, cT_undef], rfl, fun u hu => by
            rcases List.mem_append.1 hu with hu | hu
            · exact hok u hu
            · rw [(List.mem_replicate.1 hu).2]; exact okT_undef⟩
        split at hx
        · rename_i tm1 h2 hx1
          refine xcode_ok (xcall_ok hF hm hO L n) hm L c _ h _ _ _ (f3 c hb) hx1 _ m _ w hf hw fun m1 a1 w1 e1 e2 e3 e4 => ?_
          obtain ⟨rfl, r1, r2⟩ := results_ok (P := P) (fn := fn) e4.toHR e3 e4 hx
          exact ⟨e3.d, _, r1, m1, e1, e2, rfl, r2, e4⟩
        · rename_i tm1 h2 hx1
          refine xcode_ok (xcall_ok hF hm hO L n) hm L c _ h _ _ _ (f3 c hb) hx1 _ m _ w hf hw fun m1 a1 w1 e1 e2 e3 e4 => ?_
          obtain ⟨rfl, r1, r2⟩ := results_ok (P := P) (fn := fn) e4.toHR e3 e4 hx
          exact ⟨e3.d, _, r1, m1, e1, e2, rfl, r2, e4⟩
        · cases hx
theorem zip_all {α : Type} {f : α → α → Bool} (hf : ∀ a b, f a b = true → a = b) : ∀ (l r : List α), l.length = r.length → ((l.zip r).all fun p => f p.1 p.2) = true → l = r
  | [], [], _, _ => rfl
  | a :: l, b :: r, hl, h => by
    simp only [List.zip_cons_cons, List.all_cons, Bool.and_eq_true] at h
    rw [hf a b h.1, zip_all hf l r (by simpa using hl) h.2]
  | [], _ :: _, hl, _ => by simp at hl
  | _ :: _, [], hl, _ => by simp at hl
theorem sameV_eq {u v : Value} (hs : sameV u v = true) : u = v := by
  unfold sameV at hs
  split at hs
  · rename_i a b
    simp only [Bool.and_eq_true, beq_iff_eq] at hs
    rw [show a = b from Array.ext' (zip_all (fun _ _ => sameC_eq) _ _ (by simpa using hs.1) hs.2)]
  · rename_i a b
    simp only [Bool.and_eq_true, beq_iff_eq] at hs
    rw [show a = b from Array.ext' (zip_all (fun _ _ => sameC_eq) _ _ (by simpa using hs.1) hs.2)]
  · exact sameC_eq hs
theorem sameB_eq {a b : RB} (hs : sameB a b = true) : a = b := by
  unfold sameB at hs
  simp only [Bool.and_eq_true, beq_iff_eq] at hs
  obtain ⟨⟨⟨h1, h2⟩, h3⟩, h4⟩ := hs
  cases a; cases b
  dsimp only at h1 h2 h3 h4
  rw [h1, h2, zip_all (fun _ _ => sameC_eq) _ _ h3 h4]
theorem sameH_eq {g h : HP} (hs : sameH g h = true) : g = h := by
  unfold sameH at hs
  simp only [Bool.and_eq_true, beq_iff_eq] at hs
  obtain ⟨⟨h1, h2⟩, h3⟩ := hs
  cases g; cases h
  dsimp only at h1 h2 h3
  rw [h1, zip_all (fun _ _ => sameB_eq) _ _ h2 h3]
theorem sameVs_eq {a b : List Value} (hs : sameVs a b = true) : a = b := by
  unfold sameVs at hs
  simp only [Bool.and_eq_true, beq_iff_eq] at hs
  exact zip_all (fun _ _ => sameV_eq) _ _ hs.1 hs.2
theorem none_ok : HC P noneK := fun k vs h v h1 hx => by cases hx
theorem known_ok {call : Nat → List Value → HP → Option (Value × HP)} (hc : HC P call) {k : Nat} {vs : List Value} {h h1 : HP} {v : Value} (hx : (match call k vs h with | some (u, g) => sameV u v && sameH g h1 | none => false) = true) : HC P (known k vs h v h1) := fun k' vs' h' v' h1' hk => by
  unfold known at hk
  split at hk
  · rename_i hs
    obtain ⟨rfl, h2, h3⟩ := hs
    cases hk
    obtain rfl := sameVs_eq h2
    obtain rfl := sameH_eq h3
    split at hx
    · rename_i u g hug
      rw [Bool.and_eq_true] at hx
      obtain rfl := sameV_eq hx.1
      obtain rfl := sameH_eq hx.2
      exact hc _ _ _ _ _ hug
    · cases hx
  · cases hk
theorem orElse_ok {a b : Nat → List Value → HP → Option (Value × HP)} (ha : HC P a) (hb : HC P b) : HC P (orElse a b) := fun k vs h v h1 hx => by
  unfold orElse at hx
  split at hx
  · rename_i r hr
    cases hx
    exact ha _ _ _ _ _ hr
  · exact hb _ _ _ _ _ hx
end
end Go.Proofs.YteeanpfhngoobaaGreat.Xk
