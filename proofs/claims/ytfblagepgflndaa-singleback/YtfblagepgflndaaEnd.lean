/- End of a line between single quotes, as it runs; the document's own. -/
import Derived.Test.YtfblagepgflndaaSgi
set_option linter.unusedVariables false
set_option linter.unusedSimpArgs false
namespace Go.Proofs.Ytfblagepgflndaa
open Go.RowKit Go.Shelf
attribute [local go_sem] Oper.semAt_some

/-- Where the quote is closed. -/
def endS : List Sg → Option Nat
  | [] => none
  | x :: r => if x.2.1 = 39 ∧ x.2.2 = false then some x.1 else endS r
def endV : Option Nat → Value
  | none => .tuple #[.int .i64 0, .bool false]
  | some p => .tuple #[.int .i64 (p : Nat), .bool true]

theorem endS_at {T : List Sg} {i : Nat} {x : Sg} (hx : T[i]? = some x) : endS (T.drop i) = if x.2.1 = 39 ∧ x.2.2 = false then some x.1 else endS (T.drop (i + 1)) := by
  obtain ⟨hl, rfl⟩ := List.getElem?_eq_some_iff.1 hx
  rw [List.drop_eq_getElem_cons hl, endS]

theorem boxed_own' {W W' : World} {b : Nat} {ty : TypeId} {v : Value} {row : Option Nat} (hv : Boxed W b ty v) (hgr : W.grownBy W' row) {B : Nat} (hr : ∀ r, row = some r → B ≤ r ∧ ∃ o : Obj, W.heap[r]? = some o ∧ o.isCells = false) : Boxed W' b ty v := by
  refine hv.kept hgr fun e => ?_
  obtain ⟨-, o, ho, hc⟩ := hr _ e.symm
  rw [show W.heap[b]? = _ from hv] at ho; cases ho; cases hc

structure Ie (w : World) (T : List Sg) (i : Nat) (W : World) : Prop where
  e : endS T = endS (T.drop i)
  b0 : Boxed W w.heap.size 3 (.int .i64 0)
  b1 : Boxed W (w.heap.size + 1) 4 (.bool false)
  below : Below w.heap.size w W
def Ixe (w : World) (T : List Sg) (c : Code) (i : Nat) (W : World) : Prop :=
  c = .ret ∧ ∃ p : Nat, endS T = some p ∧ Boxed W w.heap.size 3 (.int .i64 p) ∧ Boxed W (w.heap.size + 1) 4 (.bool true) ∧ Below w.heap.size w W
theorem Ie.own {w : World} {T : List Sg} {B : Nat} (hB : w.heap.size ≤ B) : OwnFrom B (Ie w T) := by
  rintro s W W' row ⟨h1, h2, h3, h4⟩ hgr hr
  exact ⟨h1, boxed_own' h2 hgr hr, boxed_own' h3 hgr hr, h4.grown hgr h4.size (fun k e => by have := (hr k e).1; omega)⟩
theorem Ixe.own {w : World} {T : List Sg} (c : Code) {B : Nat} (hB : w.heap.size ≤ B) : OwnFrom B (Ixe w T c) := by
  rintro s W W' row ⟨h1, p, h0, h2, h3, h4⟩ hgr hr
  exact ⟨h1, p, h0, boxed_own' h2 hgr hr, boxed_own' h3 hgr hr, h4.grown hgr h4.size (fun k e => by have := (hr k e).1; omega)⟩
theorem Kq.putObj {X : Nat → Prop} {B : Nat} (hX : ∀ b, X b → b < B) (W : World) (l : Nat) (o o' : Obj) (hl : B ≤ l) (h : W.heap[l]? = some o) (hc : o.isCells = false) : Kq X W (W.putObj l o') :=
  ⟨by simp [World.putObj], fun b hb => World.putObj_heap_other (by have := hX b hb; omega)⟩
theorem Kq.alloc {X : Nat → Prop} {B : Nat} (hX : ∀ b, X b → b < B) (W : World) (o : Obj) (h : B ≤ W.heap.size) : Kq X W (W.alloc o) :=
  ⟨by simp, fun b hb => Below.heap_alloc W o b (by have := hX b hb; omega)⟩

/-- Two results in boxes. -/
theorem results_two {fn : Func} {p q : Tmp} (h : fn.results = #[.cell p 3, .cell q 4]) {tmps : Array Value} {W : World} {b0 b1 : Nat} {x : Int} {z : Bool} (hp : tmps.getD p undef = .pointer (some ⟨b0, 0, none⟩)) (hq : tmps.getD q undef = .pointer (some ⟨b1, 0, none⟩))
    (h0 : Boxed W b0 3 (.int .i64 x)) (h1 : Boxed W b1 4 (.bool z)) : (results fn tmps).run Try.prog W = .ok (.tuple #[.int .i64 x, .bool z]) W := by
  have hp' : tmps[p]?.getD undef = .pointer (some ⟨b0, 0, none⟩) := by simpa using hp
  have hq' : tmps[q]?.getD undef = .pointer (some ⟨b1, 0, none⟩) := by simpa using hq
  have c0 := h0.cell
  have c1 := h1.cell
  simp [results, h, hp', hq', asAddr, go_sem, c0, c1]

theorem set_other {W : World} {s : Nat} {v0 v1 : Value} (b0 : Boxed W s 3 v0) (b1 : Boxed W (s + 1) 4 v1) (x : Value) : Boxed (W.setCell ⟨s, 0, none⟩ x) (s + 1) 4 v1 := by
  show _ = _
  rw [Deep.blk_setCell_other _ _ _ _ (by dsimp only; omega)]
  exact b1
theorem set2 {w W : World} {B : Nat} {v0 v1 : Value} (b0 : Boxed W w.heap.size 3 v0) (b1 : Boxed W (w.heap.size + 1) 4 v1) (hB : w.heap.size + 2 ≤ B) (hb : Below w.heap.size w W) (x z : Value) :
    Boxed ((W.setCell ⟨w.heap.size, 0, none⟩ x).setCell ⟨w.heap.size + 1, 0, none⟩ z) w.heap.size 3 x ∧ Boxed ((W.setCell ⟨w.heap.size, 0, none⟩ x).setCell ⟨w.heap.size + 1, 0, none⟩ z) (w.heap.size + 1) 4 z ∧
    KeepsFrom B W ((W.setCell ⟨w.heap.size, 0, none⟩ x).setCell ⟨w.heap.size + 1, 0, none⟩ z) ∧ Below w.heap.size w ((W.setCell ⟨w.heap.size, 0, none⟩ x).setCell ⟨w.heap.size + 1, 0, none⟩ z) := by
  refine ⟨?_, (set_other b0 b1 x).set z, ⟨by simp [World.setCell], fun k o hk ho hc => ?_⟩, (hb.setCell (Nat.le_refl _) _).setCell (by dsimp only; omega) _⟩
  · show _ = _
    rw [Deep.blk_setCell_other _ _ _ _ (by dsimp only; omega)]
    exact b0.set x
  · rw [Deep.blk_setCell_other _ _ _ _ (by dsimp only; omega), Deep.blk_setCell_other _ _ _ _ (by dsimp only; omega)]
    exact ho
theorem boxed_put {W : World} {b D : Nat} {ty : TypeId} {v : Value} {ds : Option (List Deferred)} (h : Boxed W b ty v) (hK : W.heap[D]? = some (.deferred ds)) {o : Obj} : Boxed (W.putObj D o) b ty v := by
  refine (World.putObj_heap_other (fun e => ?_)).trans h
  subst e
  rw [show W.heap[b]? = _ from h] at hK
  cases hK

set_option maxRecDepth 100000 in
set_option maxHeartbeats 2000000 in
theorem End_any (q : Option Addr) (t : List Int) (c : Nat) (w : World) (hn : t.length ≤ 1099511627776) (hI : Is w q t) :
    Calls Try.prog 7 #[.slice q t.length c] w fun e w' => e = .returned (endV (endS (sgP 0 t))) ∧ Below w.heap.size w w' := by
  obtain ⟨T, hT⟩ : ∃ T, sgP 0 t = T := ⟨_, rfl⟩
  rw [hT]
  have HT : Hid (sgP 0 t = T) := hT
  clear hT
  refine (callsIn_wide (n := 9)).1 ?_
  have b0 := Boxed.new w 3 (.int .i64 0)
  have b1 := Boxed.new (w.alloc (.cells #[.int .i64 0] 3)) 4 (.bool false)
  have b2 := Boxed.new ((w.alloc (.cells #[.int .i64 0] 3)).alloc (.cells #[.bool false] 4)) 24 (.slice q t.length c)
  have hs1 : (w.alloc (.cells #[.int .i64 0] 3)).heap.size = w.heap.size + 1 := by simp
  have hs2 : ((w.alloc (.cells #[.int .i64 0] 3)).alloc (.cells #[.bool false] 4)).heap.size = w.heap.size + 1 + 1 := by simp
  rw [hs1] at b1
  rw [hs2] at b2
  have hB1 := ((Below.refl w.heap.size w).alloc (Nat.le_refl _) (.cells #[.int .i64 0] 3)).alloc (by simp) (.cells #[.bool false] 4)
  have hB2 := hB1.alloc (by simp; omega) (.cells #[.slice q t.length c] 24)
  have hs3 : (((w.alloc (.cells #[.int .i64 0] 3)).alloc (.cells #[.bool false] 4)).alloc (.cells #[.slice q t.length c] 24)).heap.size = w.heap.size + 1 + 1 + 1 := by simp
  have c0 := ((b0.alloc (.cells #[.bool false] 4)).alloc (.cells #[.slice q t.length c] 24))
  have c1 := b1.alloc (.cells #[.slice q t.length c] 24)
  have SG := fun m => signs_in m q t.length c ((w.alloc (.cells #[.int .i64 0] 3)).alloc (.cells #[.bool false] 4))
  have hI2 := hI.on hB2
  refine callsIn_of_wp_marks Try.func7 rfl trivial ?_ rfl
  simp only [Try.ntmps7, List.size_toArray, List.length_cons, List.length_nil, Nat.reduceAdd, Nat.reduceSub, Array.replicate_succ, Array.replicate_zero, List.push_toArray, List.append_toArray, List.nil_append, List.cons_append]
  clear b0 b1 hs1 hs2
  gi_wp2_with (first | (refine ⟨trivial, ?_⟩; gi_at_call 18; refine (SG _).mono ?_; rintro e W2 ⟨rfl, rfl⟩))
  generalize (((w.alloc (.cells #[.int .i64 0] 3)).alloc (.cells #[.bool false] 4)).alloc (.cells #[.slice q t.length c] 24)) = W3 at b2 hB2 hs3 c0 c1 hI2 ⊢
  clear SG hB1
  have hXs := xs_lt (Bb := w.heap.size + 1 + 1) (B := W3.heap.size) hI (by omega) (by omega)
  have SQ := signs_seq (9 - 1) (w.heap.size + 1 + 1) c q t (by omega) W3 b2.cell hI2
  rw [HT.out] at SQ
  refine wpIn_rangeFuncB (gf := 26) (lb := #[.pointer (some ⟨w.heap.size + 1 + 1, 0, none⟩)]) rfl (enters_of Try.func26 (by kernel_rfl) rfl) SQ (fun h k => Kq.trans h k) (Kq.putObj hXs) (Below.refl _ _) (fun _ => rfl)
    (Ie w T) (Ixe w T) (Ie.own (by omega)) (fun c => Ixe.own c (by omega)) ⟨rfl, c0, c1, hB2⟩
    (fun x => .cells #[.int .i64 x.2.1, .bool x.2.2] 38) (fun W x h => Kq.alloc hXs W _ h)
    (fun x b => { tmps := #[.slice q t.length c, undef, .pointer (some ⟨w.heap.size, 0, none⟩), .pointer (some ⟨w.heap.size + 1, 0, none⟩), .int .i64 (x.1 : Nat), .pointer (some ⟨b, 0, none⟩), .slice q t.length c, .func (.func 26) #[] #[.pointer (some ⟨w.heap.size + 1 + 1, 0, none⟩)], .int .i64 (x.1 : Nat), .agg #[.int .i64 x.2.1, .bool x.2.2], undef, undef, undef, undef, undef, undef, undef, undef, undef], defers := [] }) ?assign ?body ?done ?stop
  case assign =>
    intro m l x W K hK
    simp only [encS] at hK ⊢
    gi_wp2
    exact hK
  case body =>
    clear SQ c0 c1 b2 hI2
    rintro m l i b ⟨p, x, z⟩ W hx ⟨he, b0, b1, hbW⟩ xb
    dsimp only at xb ⊢
    have e0 : W.cell? ⟨b, 0, none⟩ = some (.int .i64 x) := by simp [World.cell?, xb]
    have e1 : W.cell? ⟨b, 1, none⟩ = some (.bool z) := by simp [World.cell?, xb]
    have hE := he.trans (endS_at hx)
    dsimp only at hE
    by_cases h39 : x = 39
    · subst h39
      cases z with
      | false =>
        rw [if_pos ⟨rfl, rfl⟩] at hE
        have HE : Hid (endS T = some p) := hE
        obtain ⟨P1, P2, P3, P4⟩ := set2 (w := w) (B := W3.heap.size) b0 b1 (by omega) hbW (.int .i64 p) (.bool true)
        have f0 := b0.cell
        have f1 := b0.frozen
        have f2 := (set_other b0 b1 (.int .i64 p)).cell
        have f3 := (set_other b0 b1 (.int .i64 p)).frozen
        clear hE he hx xb
        gi_wp2
        exact ⟨P3, rfl, p, HE.out, P1, P2, P4⟩
      | true =>
        rw [if_neg (by simp)] at hE
        have HE : Hid (endS T = endS (T.drop (i + 1))) := hE
        clear hE he hx xb
        gi_wp2
        exact ⟨KeepsFrom.refl _ _, Kq.refl _ _, HE.out, b0, b1, hbW⟩
    · rw [if_neg (fun h => h39 h.1)] at hE
      have h39' : (x == 39) = false := by simpa using h39
      have HE : Hid (endS T = endS (T.drop (i + 1))) := hE
      clear hE he hx xb
      gi_wp2
      exact ⟨KeepsFrom.refl _ _, Kq.refl _ _, HE.out, b0, b1, hbW⟩
  case done =>
    rintro D W hD ⟨he, b0, b1, hbW⟩ hK
    rw [List.drop_eq_nil_of_le (Nat.le_refl _)] at he
    have HE : Hid (endS T = none) := he
    obtain ⟨P1, P2, P3, P4⟩ := set2 (w := w) (B := W3.heap.size) b0 b1 (by omega) hbW (.int .i64 0) (.bool false)
    have f0 := b0.cell
    have f1 := b0.frozen
    have f2 := (set_other b0 b1 (.int .i64 0)).cell
    have f3 := (set_other b0 b1 (.int .i64 0)).frozen
    have hK2 := P3.same D _ hD hK rfl
    clear he SQ c0 c1 b2
    gi_wp2
    refine ⟨by simp, .inl ⟨_, _, rfl, run_takeDeferred hK2, ?_⟩⟩
    refine ⟨_, results_two rfl rfl rfl (boxed_put P1 hK2) (boxed_put P2 hK2), ?_⟩
    rw [HE.out]
    exact ⟨rfl, P4.trans (belowK_b (w := w) (Nat.le_refl _) _ D _ _ (by omega) hK2 rfl rfl)⟩
  case stop =>
    rintro D c' i W hD ⟨rfl, p, he, b0, b1, hbW⟩ hK
    have HE : Hid (endS T = some p) := he
    clear he SQ c0 c1 b2
    gi_wp2
    refine ⟨by simp, .inl ⟨_, _, rfl, run_takeDeferred hK, ?_⟩⟩
    refine ⟨_, results_two rfl rfl rfl (boxed_put b0 hK) (boxed_put b1 hK), ?_⟩
    rw [HE.out]
    exact ⟨rfl, hbW.trans (belowK_b (w := w) (Nat.le_refl _) W D _ _ (by omega) hK rfl rfl)⟩

theorem endS_two {t : List Int} {k : Nat} (h : k + 1 < t.length) (h1 : iAt t k = 39) (h2 : iAt t (k + 1) = 39) : endS (sgP k (t.drop k)) = endS (sgP (k + 2) (t.drop (k + 2))) := by
  rw [sg_two h h1 h2, endS, if_neg (by simp)]
theorem endS_quote {t : List Int} {k : Nat} (h : k < t.length) (h1 : iAt t k = 39) (h2 : ¬ (k + 1 < t.length ∧ iAt t (k + 1) = 39)) : endS (sgP k (t.drop k)) = some k := by
  have : sgP k (t.drop k) = (k, iAt t k, false) :: sgP (k + 1) (t.drop (k + 1)) := by
    by_cases h3 : k + 1 < t.length
    · exact sg_one h3 (fun h => h2 ⟨h3, h.2⟩)
    · exact sg_last h h3
  rw [this, endS, if_pos ⟨h1, rfl⟩]
theorem endS_other {t : List Int} {k : Nat} (h : k < t.length) (h1 : iAt t k ≠ 39) : endS (sgP k (t.drop k)) = endS (sgP (k + 1) (t.drop (k + 1))) := by
  have : sgP k (t.drop k) = (k, iAt t k, false) :: sgP (k + 1) (t.drop (k + 1)) := by
    by_cases h3 : k + 1 < t.length
    · exact sg_one h3 (fun h => h1 h.1)
    · exact sg_last h h3
  rw [this, endS, if_neg (fun h => h1 h.1)]

set_option maxRecDepth 100000 in
set_option maxHeartbeats 1000000 in
theorem refEnd_any (q : Option Addr) (t : List Int) (c : Nat) (w : World) (hn : t.length ≤ 1099511627776) (hI : Is w q t) :
    Calls Try.prog 8 #[.slice q t.length c] w fun e w' => e = .returned (endV (endS (sgP 0 t))) ∧ w' = w := by
  obtain ⟨E, hE⟩ : ∃ E, endS (sgP 0 t) = E := ⟨_, rfl⟩
  rw [hE]
  have HE : Hid (endS (sgP 0 (t.drop 0)) = E) := hE
  have hn2 : (t.length : Int) ≤ 1099511627776 := by omega
  clear hE
  go_enter Try.func8, Try.ntmps8
  go_wp2
  go_loop [4] (fun iv => ∃ (k : Nat), k ≤ t.length ∧ iv = .int .i64 k ∧ Hid (endS (sgP k (t.drop k)) = E)) (fun iv => t.length - (intOf iv).toNat)
  case atStart => exact ⟨0, by omega, rfl, HE⟩
  case round =>
    obtain ⟨k, hk, rfl, Hs⟩ := hrel
    by_cases hlt : k < t.length
    · have hli : (k : Int) < t.length := by omega
      obtain ⟨b, o, rfl, hu⟩ := hI.at (by omega)
      have c0 := hu k hlt
      by_cases h1 : iAt t k = 39
      · rw [h1] at c0
        by_cases h2 : k + 1 < t.length
        · have h2' : (k : Int) + 1 < t.length := by omega
          have c2 := hu (k + 1) h2
          by_cases h3 : iAt t (k + 1) = 39
          · have Hs' : Hid (endS (sgP (k + 2) (t.drop (k + 2))) = E) := by show _ = _; rw [← endS_two h2 h1 h3]; exact Hs.out
            rw [h3] at c2
            clear hu
            go_wp2
            go_round
            case rel => exact ⟨k + 2, by omega, by go_num, Hs'⟩
            case measure => simp [intOf]; omega
          · have hE : E = some k := by rw [← Hs.out, endS_quote hlt h1 (fun h => h3 h.2)]
            have h3' : (iAt t (k + 1) == 39) = false := by simpa using h3
            generalize iAt t (k + 1) = y at c2 h3 h3'
            subst hE
            clear hu
            go_wp2
            go_ret2
            exact ⟨rfl, rfl⟩
        · have h2' : decide ((k : Int) + 1 < t.length) = false := by simp; omega
          have h2'' : ¬ (k : Int) + 1 < t.length := by omega
          have hE : E = some k := by rw [← Hs.out, endS_quote hlt h1 (fun h => h2 h.1)]
          subst hE
          clear hu
          go_wp2
          go_ret2
          exact ⟨rfl, rfl⟩
      · have Hs' : Hid (endS (sgP (k + 1) (t.drop (k + 1))) = E) := by show _ = _; rw [← endS_other hlt h1]; exact Hs.out
        have h1' : (iAt t k == 39) = false := by simpa using h1
        generalize iAt t k = x at c0 h1 h1'
        clear hu
        go_wp2
        go_round
        case rel => exact ⟨k + 1, by omega, by go_num, Hs'⟩
        case measure => simp [intOf]; omega
    · have hge : ¬ (k : Int) < t.length := by omega
      have hE : E = none := by rw [← Hs.out, sg_end (by omega), endS]
      subst hE
      go_wp2
      go_ret2
      exact ⟨rfl, rfl⟩
end Go.Proofs.Ytfblagepgflndaa
