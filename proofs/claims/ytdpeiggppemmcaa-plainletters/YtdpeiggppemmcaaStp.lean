/- Where a text without quotes stops, as it runs; the document's own. -/
import Derived.Test.YtdpeiggppemmcaaSgi
set_option linter.unusedVariables false
set_option linter.unusedSimpArgs false
namespace Go.Proofs.Ytdpeiggppemmcaa
open Go.RowKit Go.Shelf
attribute [local go_sem] Oper.semAt_some

theorem boxed_own' {W W' : World} {b : Nat} {ty : TypeId} {v : Value} {row : Option Nat} (hv : Boxed W b ty v) (hgr : W.grownBy W' row) {B : Nat} (hr : ∀ r, row = some r → B ≤ r ∧ ∃ o : Obj, W.heap[r]? = some o ∧ o.isCells = false) : Boxed W' b ty v := by
  refine hv.kept hgr fun e => ?_
  obtain ⟨-, o, ho, hc⟩ := hr _ e.symm
  rw [show W.heap[b]? = _ from hv] at ho; cases ho; cases hc

structure Ie (w : World) (t : List Int) (fl : Bool) (i : Nat) (W : World) : Prop where
  e : ∀ j, j < i → enAt t fl j = false
  b0 : Boxed W w.heap.size 4 (.bool fl)
  b1 : Boxed W (w.heap.size + 1) 3 (.int .i64 0)
  below : Below w.heap.size w W
  room : w.heap.size + 3 ≤ W.heap.size
def Ixe (w : World) (t : List Int) (fl : Bool) (c : Code) (i : Nat) (W : World) : Prop :=
  c = .ret ∧ Boxed W (w.heap.size + 1) 3 (.int .i64 (stopP t fl : Nat)) ∧ Below w.heap.size w W
theorem Ie.own {w : World} {t : List Int} {fl : Bool} {B : Nat} (hB : w.heap.size ≤ B) : OwnFrom B (Ie w t fl) := by
  rintro s W W' row ⟨h1, h2, h3, h4, h5⟩ hgr hr
  have h6 := h4.grown hgr h4.size (fun k e => by have := (hr k e).1; omega)
  exact ⟨h1, boxed_own' h2 hgr hr, boxed_own' h3 hgr hr, h6, Nat.le_trans h5 hgr.size⟩
theorem Ixe.own {w : World} {t : List Int} {fl : Bool} (c : Code) {B : Nat} (hB : w.heap.size ≤ B) : OwnFrom B (Ixe w t fl c) := by
  rintro s W W' row ⟨h1, h2, h4⟩ hgr hr
  exact ⟨h1, boxed_own' h2 hgr hr, h4.grown hgr h4.size (fun k e => by have := (hr k e).1; omega)⟩
theorem Kq.putObj {X : Nat → Prop} {B : Nat} (hX : ∀ b, X b → b < B) (W : World) (l : Nat) (o o' : Obj) (hl : B ≤ l) (h : W.heap[l]? = some o) (hc : o.isCells = false) : Kq X W (W.putObj l o') :=
  ⟨by simp [World.putObj], fun b hb => World.putObj_heap_other (by have := hX b hb; omega)⟩
theorem Kq.alloc {X : Nat → Prop} {B : Nat} (hX : ∀ b, X b → b < B) (W : World) (o : Obj) (h : B ≤ W.heap.size) : Kq X W (W.alloc o) :=
  ⟨by simp, fun b hb => Below.heap_alloc W o b (by have := hX b hb; omega)⟩
theorem keeps_below {B : Nat} {A C : World} (h : Below A.heap.size A C) : KeepsFrom B A C := ⟨h.size, fun k o hk ho hc => (h.block k (Array.getElem?_eq_some_iff.1 ho).1).trans ho⟩
theorem boxed_below {A C : World} {b : Nat} {ty : TypeId} {v : Value} (hv : Boxed A b ty v) (h : Below A.heap.size A C) : Boxed C b ty v :=
  (h.block b (Array.getElem?_eq_some_iff.1 (show A.heap[b]? = _ from hv)).1).trans hv

/-- One result in a box. -/
theorem results_box {fn : Func} {p : Tmp} (h : fn.results = #[.cell p 3]) {tmps : Array Value} {W : World} {b0 : Nat} {x : Int} (hp : tmps.getD p undef = .pointer (some ⟨b0, 0, none⟩))
    (h0 : Boxed W b0 3 (.int .i64 x)) : (results fn tmps).run Try.prog W = .ok (.int .i64 x) W := by
  have hp' : tmps[p]?.getD undef = .pointer (some ⟨b0, 0, none⟩) := by simpa using hp
  have c0 := h0.cell
  simp [results, h, hp', asAddr, go_sem, c0]
theorem set1 {w W : World} {B b : Nat} {v0 : Value} (b0 : Boxed W b 3 v0) (hB : b < B) (hw : w.heap.size ≤ b) (hb : Below w.heap.size w W) (x : Value) :
    Boxed (W.setCell ⟨b, 0, none⟩ x) b 3 x ∧ KeepsFrom B W (W.setCell ⟨b, 0, none⟩ x) ∧ Below w.heap.size w (W.setCell ⟨b, 0, none⟩ x) := by
  refine ⟨b0.set x, ⟨by simp [World.setCell], fun k o hk ho hc => ?_⟩, hb.setCell hw _⟩
  rw [Deep.blk_setCell_other _ _ _ _ (by dsimp only; omega)]
  exact ho
theorem boxed_put {W : World} {b D : Nat} {ty : TypeId} {v : Value} {ds : Option (List Deferred)} (h : Boxed W b ty v) (hK : W.heap[D]? = some (.deferred ds)) {o : Obj} : Boxed (W.putObj D o) b ty v := by
  refine (World.putObj_heap_other (fun e => ?_)).trans h
  subst e
  rw [show W.heap[b]? = _ from h] at hK
  cases hK

set_option maxRecDepth 100000 in
set_option maxHeartbeats 2000000 in
theorem stop_any (q : Option Addr) (t : List Int) (c : Nat) (fl : Bool) (w : World) (hn : t.length ≤ 1099511627776) (hI : Is w q t) :
    Calls Try.prog 14 #[.slice q t.length c, .bool fl] w fun e w' => e = .returned (.int .i64 (stopP t fl : Nat)) ∧ Below w.heap.size w w' := by
  refine (callsIn_wide (n := 9)).1 ?_
  have b0 := Boxed.new w 4 (.bool fl)
  have b1 := Boxed.new (w.alloc (.cells #[.bool fl] 4)) 3 (.int .i64 0)
  have b2 := Boxed.new ((w.alloc (.cells #[.bool fl] 4)).alloc (.cells #[.int .i64 0] 3)) 22 (.slice q t.length c)
  have hs1 : (w.alloc (.cells #[.bool fl] 4)).heap.size = w.heap.size + 1 := by simp
  have hs2 : ((w.alloc (.cells #[.bool fl] 4)).alloc (.cells #[.int .i64 0] 3)).heap.size = w.heap.size + 1 + 1 := by simp
  rw [hs1] at b1
  rw [hs2] at b2
  have hB1 := ((Below.refl w.heap.size w).alloc (Nat.le_refl _) (.cells #[.bool fl] 4)).alloc (by simp) (.cells #[.int .i64 0] 3)
  have hB2 := hB1.alloc (by simp; omega) (.cells #[.slice q t.length c] 22)
  have hs3 : (((w.alloc (.cells #[.bool fl] 4)).alloc (.cells #[.int .i64 0] 3)).alloc (.cells #[.slice q t.length c] 22)).heap.size = w.heap.size + 1 + 1 + 1 := by simp
  have c0 := ((b0.alloc (.cells #[.int .i64 0] 3)).alloc (.cells #[.slice q t.length c] 22))
  have c1 := b1.alloc (.cells #[.slice q t.length c] 22)
  have SG := fun m => signs_in m q t.length c ((w.alloc (.cells #[.bool fl] 4)).alloc (.cells #[.int .i64 0] 3))
  have hI2 := hI.on hB2
  have hn2 : (t.length : Int) ≤ 1099511627776 := by omega
  refine callsIn_of_wp_marks Try.func14 rfl trivial ?_ rfl
  simp only [Try.ntmps14, List.size_toArray, List.length_cons, List.length_nil, Nat.reduceAdd, Nat.reduceSub, Array.replicate_succ, Array.replicate_zero, List.push_toArray, List.append_toArray, List.nil_append, List.cons_append]
  clear b0 b1 hs1 hs2
  gi_wp2_with (first | (refine ⟨trivial, ?_⟩; gi_at_call 24; refine (SG _).mono ?_; rintro e W2 ⟨rfl, rfl⟩))
  generalize (((w.alloc (.cells #[.bool fl] 4)).alloc (.cells #[.int .i64 0] 3)).alloc (.cells #[.slice q t.length c] 22)) = W3 at b2 hB2 hs3 c0 c1 hI2 ⊢
  clear SG hB1
  have hXs := xs_lt (Bb := w.heap.size + 1 + 1) (B := W3.heap.size) hI (by omega) (by omega)
  have SQ := signs_seq (9 - 1) (w.heap.size + 1 + 1) c q t (by omega) W3 b2.cell hI2
  refine wpIn_rangeFuncB (gf := 32) (lb := #[.pointer (some ⟨w.heap.size + 1 + 1, 0, none⟩)]) rfl (enters_of Try.func32 (by kernel_rfl) rfl) SQ (fun h k => Kq.trans h k) (Kq.putObj hXs) (Below.refl _ _) (fun _ => rfl)
    (Ie w t fl) (Ixe w t fl) (Ie.own (by omega)) (fun c => Ixe.own c (by omega)) ⟨fun j hj => by omega, c0, c1, hB2, by omega⟩
    (fun x => .cells #[.int .i64 (ahP t x), .int .i64 (iAt t x), .int .i64 (bhP t x)] 32) (fun W x h => Kq.alloc hXs W _ h)
    (fun x b => { tmps := #[.slice q t.length c, .bool fl, undef, .pointer (some ⟨w.heap.size, 0, none⟩), .pointer (some ⟨w.heap.size + 1, 0, none⟩), .int .i64 (x : Nat), .pointer (some ⟨b, 0, none⟩), .slice q t.length c, .func (.func 32) #[] #[.pointer (some ⟨w.heap.size + 1 + 1, 0, none⟩)], .int .i64 (x : Nat), sgV t x, undef, undef, undef, undef, undef, undef], defers := [] }) ?assign ?body ?done ?stop
  case assign =>
    intro m l x W K hK
    simp only [encS, sgV] at hK ⊢
    gi_wp2
    exact hK
  case body =>
    clear SQ c0 c1 b2 hI2
    rintro m l i b x W hx ⟨he, b0, b1, hbW, hrm⟩ xb
    obtain ⟨rfl, hlt⟩ := range_at hx
    have e0 : W.cell? ⟨b, 0, none⟩ = some (.int .i64 (ahP t x)) := by simp [World.cell?, xb]
    have e1 : W.cell? ⟨b, 1, none⟩ = some (.int .i64 (iAt t x)) := by simp [World.cell?, xb]
    have e2 : W.cell? ⟨b, 2, none⟩ = some (.int .i64 (bhP t x)) := by simp [World.cell?, xb]
    have f0 := b0.cell
    have EN := fun m => CallsIn.inRound l ((callsIn_wide (n := m)).2 (ends_any (ahP t x) (iAt t x) (bhP t x) fl W))
    have hen : enP (ahP t x) (iAt t x) (bhP t x) fl = enAt t fl x := rfl
    rw [hen] at EN
    have HE : Hid (∀ j, j < x → enAt t fl j = false) := he
    have hXW : ∀ b, Xs q t (w.heap.size + 1 + 1) b → b < W.heap.size := fun b hb => Nat.lt_of_lt_of_le (hXs b hb) (by omega)
    clear he hx xb hen
    cases hv : enAt t fl x with
    | true =>
      rw [hv] at EN
      have HS : Hid (stopP t fl = x) := stop_eq (by omega) HE.out (fun _ => hv)
      clear hv
      gi_wp2
      refine ⟨trivial, (fun h => by cases h), ?_⟩
      gi_at_call 25
      refine (EN _).mono ?_
      rintro e W2 ⟨rfl, hb2⟩
      have g1 := boxed_below b1 hb2
      have g2 := g1.cell
      have g3 := g1.frozen
      obtain ⟨P1, P2, P3⟩ := set1 (w := w) (B := W3.heap.size) g1 (by omega) (by omega) (hbW.trans (hb2.mono hbW.size)) (.int .i64 (x : Nat))
      have P4 := (keeps_below (B := W3.heap.size) hb2).trans P2
      gi_wp2
      refine ⟨P4, rfl, ?_, P3⟩
      rw [HS.out]
      exact P1
    | false =>
      rw [hv] at EN
      have HN : Hid (∀ j, j < x + 1 → enAt t fl j = false) := fun j hj => by
        by_cases e : j = x
        · subst e; exact hv
        · exact HE.out j (by omega)
      clear hv
      gi_wp2
      refine ⟨trivial, (fun h => by cases h), ?_⟩
      gi_at_call 25
      refine (EN _).mono ?_
      rintro e W2 ⟨rfl, hb2⟩
      have g0 := boxed_below b0 hb2
      have g1 := boxed_below b1 hb2
      gi_wp2
      exact ⟨keeps_below hb2, Kq.below hb2 hXW, HN.out, g0, g1, hbW.trans (hb2.mono hbW.size), Nat.le_trans hrm hb2.size⟩
  case done =>
    rintro D W hD ⟨he, b0, b1, hbW, hrm⟩ hK
    rw [List.length_range] at he
    have HE : Hid (stopP t fl = t.length) := stop_eq (Nat.le_refl _) he (fun h => by omega)
    obtain ⟨P1, P2, P3⟩ := set1 (w := w) (B := W3.heap.size) b1 (by omega) (by omega) hbW (.int .i64 (t.length : Nat))
    have f0 := b1.cell
    have f1 := b1.frozen
    have hK2 := P2.same D _ hD hK rfl
    clear he SQ c0 c1 b2
    gi_wp2
    refine ⟨by simp, .inl ⟨_, _, rfl, run_takeDeferred hK2, ?_⟩⟩
    refine ⟨_, results_box rfl rfl (boxed_put P1 hK2), ?_⟩
    rw [HE.out]
    exact ⟨rfl, P3.trans (belowK_b (w := w) (Nat.le_refl _) _ D _ _ (by omega) hK2 rfl rfl)⟩
  case stop =>
    rintro D c' i W hD ⟨rfl, b1, hbW⟩ hK
    clear SQ c0 c1 b2
    gi_wp2
    refine ⟨by simp, .inl ⟨_, _, rfl, run_takeDeferred hK, ?_⟩⟩
    refine ⟨_, results_box rfl rfl (boxed_put b1 hK), ?_⟩
    exact ⟨rfl, hbW.trans (belowK_b (w := w) (Nat.le_refl _) W D _ _ (by omega) hK rfl rfl)⟩
end Go.Proofs.Ytdpeiggppemmcaa
