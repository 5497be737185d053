/- The document's paired: two stacks side by side. -/
import Derived.Test.YteeanpfhngoobaaGreatZCde
import Derived.Test.YteeanpfhngoobaaGreatZNds
set_option linter.unusedVariables false
set_option linter.unusedSimpArgs false
namespace Go.Proofs.YteeanpfhngoobaaGreat
open Go.RowKit Go.Shelf

abbrev cV (p : Nat × Bool) : Value := .int .i64 (p.1 : Nat)
abbrev mV (p : Nat × Bool) : Value := .bool p.2
theorem Stk.typed {α : Type} {e : TypeId} {f : α → Value} {w : World} {base : Nat} {v : Value} {s : List α} (h : Stk e f w base v s) {g : Nat} (hg : v.ownBlock = some g) : base ≤ g ∧ g < w.heap.size ∧ ∃ cur, w.heap[g]? = some (.cells cur e (0, 0)) := by
  obtain ⟨-, ⟨e1, e2⟩ | ⟨g', cap, cur, e1, hb, hh, -⟩⟩ := h
  · rw [e1] at hg; cases hg
  · rw [e1] at hg; cases hg; exact ⟨hb, (Array.getElem?_eq_some_iff.1 hh).1, cur, hh⟩
theorem Stk.other {α β : Type} {e e' : TypeId} {f : α → Value} {f' : β → Value} {w w' : World} {base base' : Nat} {v v' : Value} {s : List α} {s' : List β} (h : Stk e f w base v s) (h' : Stk e' f' w base' v' s') (hne : e ≠ e') {row : Option Nat} (hg : w.grownBy w' row) (hr : row = v.ownBlock ∨ row = none) : Stk e' f' w' base' v' s' := by
  refine h'.same fun g' hg' => ?_
  obtain ⟨-, hl, cur', hh'⟩ := h'.typed hg'
  refine hg.block g' hl fun e1 => ?_
  rcases hr with hr | hr
  · rw [hr] at e1
    obtain ⟨-, -, cur, hh⟩ := h.typed e1.symm
    rw [hh] at hh'
    cases hh'
    exact hne rfl
  · rw [hr] at e1; cases e1
theorem Stk.below {α : Type} {e : TypeId} {f : α → Value} {w w' u : World} {n₀ base : Nat} {v : Value} {s : List α} (h : Stk e f w base v s) (hn : n₀ ≤ base) (hnw : n₀ ≤ w.heap.size) (hg : w.grownBy w' v.ownBlock) (hb : Below n₀ u w) : Below n₀ u w' :=
  hb.grown hg hnw (fun k e1 => Nat.le_trans hn (h.typed e1).1)

/-- Both grow. -/
theorem both_push {w u : World} {base : Nat} {cv mv : Value} {cs : List (Nat × Bool)} (hc : Stk 3 cV w base cv cs) (hm : Stk 4 mV w base mv cs) (hb : base ≤ w.heap.size) (hn : cs.length + 1 ≤ 5864062014806) (z : Bool) {n₀ : Nat} (hn₀ : n₀ ≤ base) (hu : Below n₀ u w) :
    ∃ g1 c1 w2 g2 c2 w3, (Builtin.append_ #[26, 26] 26 #[cv, .slice (some ⟨w.heap.size, 0, none⟩) 1 1]).run Tryz.prog (w.alloc (.cells #[.int .i64 0] 3)) = .ok (.slice (some ⟨g1, 0, none⟩) (cs.length + 1) c1) w2 ∧
      (Builtin.append_ #[131, 131] 131 #[mv, .slice (some ⟨w2.heap.size, 0, none⟩) 1 1]).run Tryz.prog (w2.alloc (.cells #[.bool z] 4)) = .ok (.slice (some ⟨g2, 0, none⟩) (cs.length + 1) c2) w3 ∧
      Stk 3 cV w3 base (.slice (some ⟨g1, 0, none⟩) (cs.length + 1) c1) ((0, z) :: cs) ∧ Stk 4 mV w3 base (.slice (some ⟨g2, 0, none⟩) (cs.length + 1) c2) ((0, z) :: cs) ∧ Below n₀ u w2 ∧ Below n₀ u w3 := by
  obtain ⟨g1, c1, w2, r1, s1, k1, -, -⟩ := Stk.push 26 (.int .i64 0) 8 Tryz.underlying26 Tryz.info3 rfl (by decide) hc hb hn (0, z) rfl
  have hm1 := hm.alloc (.cells #[cV (0, z)] 3)
  have hc1 := hc.alloc (.cells #[cV (0, z)] 3)
  have hm2 := hc1.other hm1 (by decide) k1 (.inl rfl)
  have hu1 := hu.alloc (Nat.le_trans hn₀ hb) (.cells #[cV (0, z)] 3)
  have hu2 := hc1.below hn₀ (by simp; omega) k1 hu1
  have hb2 : base ≤ w2.heap.size := Nat.le_trans hb (Nat.le_trans (by simp) k1.size)
  obtain ⟨g2, c2, w3, r2, s2, k2, -, -⟩ := Stk.push 131 (.bool false) 1 Tryz.underlying131 Tryz.info4 rfl (by decide) hm2 hb2 hn (0, z) rfl
  have s1a := s1.alloc (.cells #[mV (0, z)] 4)
  have hm3 := hm2.alloc (.cells #[mV (0, z)] 4)
  refine ⟨g1, c1, w2, g2, c2, w3, r1, r2, hm3.other s1a (by decide) k2 (.inl rfl), s2, hu2, ?_⟩
  exact hm3.below hn₀ (by simp; omega) k2 (hu2.alloc (Nat.le_trans hn₀ hb2) _)
/-- One more node. -/
theorem both_bump {w u : World} {base g d cp c : Nat} {mv : Value} {m : Bool} {r : List (Nat × Bool)} (hd : r.length = d) (hc : Stk 3 cV w base (.slice (some ⟨g, 0, none⟩) (d + 1) cp) ((c, m) :: r)) (hm : Stk 4 mV w base mv ((c, m) :: r)) {n₀ : Nat} (hn₀ : n₀ ≤ base) (hu : Below n₀ u w) :
    w.cell? ⟨g, d, none⟩ = some (.int .i64 (c : Nat)) ∧ w.frozen? ⟨g, d, none⟩ = false ∧ Stk 3 cV (w.setCell ⟨g, d, none⟩ (.int .i64 ((c + 1 : Nat) : Int))) base (.slice (some ⟨g, 0, none⟩) (d + 1) cp) ((c + 1, m) :: r) ∧ Stk 4 mV (w.setCell ⟨g, d, none⟩ (.int .i64 ((c + 1 : Nat) : Int))) base mv ((c + 1, m) :: r) ∧ Below n₀ u (w.setCell ⟨g, d, none⟩ (.int .i64 ((c + 1 : Nat) : Int))) := by
  subst hd
  refine ⟨hc.top, hc.frozen _, hc.set (c + 1, m), ?_, hc.below hn₀ (by have := (hc.typed rfl).1; have := (hc.typed rfl).2.1; omega) (grown_set w g _ _) hu⟩
  have := hc.other hm (by decide) (grown_set w g r.length (.int .i64 ((c + 1 : Nat) : Int))) (.inl rfl)
  have e : (((c + 1, m) :: r).reverse.map mV) = (((c, m) :: r).reverse.map mV) := by simp
  unfold Stk at this ⊢
  rw [e]
  exact this
theorem prd_end {cs : List (Nat × Bool)} {x : Ev} {t : List Ev} {V : Bool} (hk : x.k = 4 ∨ x.k = 6) (h : prd cs (x :: t) = some V) : ∃ c m r, cs = (c, m) :: r ∧ ((m = true ∧ c % 2 = 1 ∧ V = false) ∨ (¬ (m = true ∧ c % 2 = 1) ∧ prd r t = some V)) := by
  rw [prd_cons, if_pos hk] at h
  match cs, h with
  | (c, m) :: r, h =>
    refine ⟨c, m, r, rfl, ?_⟩
    simp only at h
    split at h
    · rename_i h1; cases h; exact .inl ⟨h1.1, h1.2, rfl⟩
    · rename_i h1; exact .inr ⟨h1, h⟩

set_option maxRecDepth 100000 in
set_option maxHeartbeats 4000000 in
theorem paired_any (q : Option Addr) (L : List Ev) (n c : Nat) (w : World) (V : Bool) (hn : n = L.length) (hl : L.length ≤ 5864062014805) (hE : Es w q L) (hV : prd [] L = some V) :
    Calls Tryz.prog 43 #[.slice q n c] w fun e w' => e = .returned (.bool V) ∧ Below w.heap.size w w' := by
  subst hn
  have HV : Hid (prd [] L = some V) := hV
  clear hV
  have hl2 : (L.length : Int) ≤ 5864062014805 := by omega
  go_enter Tryz.func43, Tryz.ntmps43
  go_wp2
  go_loopw [3, 4, 5] (fun cv mv iv wr => ∃ (k : Nat) (cs : List (Nat × Bool)), k ≤ L.length ∧ iv = .int .i64 k ∧ cs.length ≤ k ∧ (∀ p ∈ cs, p.1 ≤ k) ∧ Hid (∃ a1 c1, cv = .slice a1 cs.length c1) ∧ Hid (Stk 3 cV wr w.heap.size cv cs) ∧ Hid (Stk 4 mV wr w.heap.size mv cs) ∧ Below w.heap.size w wr ∧ Hid (prd cs (L.drop k) = some V)) (fun _ _ iv _ => L.length - (intOf iv).toNat)
  case atStart => exact ⟨0, [], Nat.zero_le _, rfl, Nat.le_refl _, (fun p hp => by cases hp), ⟨_, _, rfl⟩, Stk.zero _ _ _ _, Stk.zero _ _ _ _, Below.refl _ _, HV.out⟩
  case round =>
    obtain ⟨k, cs, hk, rfl, hlen, hle, HL, HC, HM, hB, HP⟩ := hrel
    by_cases hlt : k < L.length
    · have hli : (k : Int) < L.length := by omega
      obtain ⟨x, hx⟩ := ev_at hlt
      obtain ⟨b, o, rfl, hc⟩ := (hE.on hB).at (by omega)
      have e0 := (hc k x hx).c0
      have HPx : Hid (prd cs (x :: L.drop (k + 1)) = some V) := by have h := HP.out; rw [drop_at hx] at h; exact h
      clear HP HV
      have HP := HPx
      clear HPx hx
      obtain ⟨xk, tx, tg, an, xs, fl⟩ := x
      dsimp only at e0
      by_cases k4 : xk = 4
      · obtain ⟨c0, m0, r0, hcs, hor⟩ := prd_end (x := ⟨xk, tx, tg, an, xs, fl⟩) (by dsimp only; omega) HP.out
        subst hcs
        obtain ⟨g1, cp1, ev1, -, -, hcp1, hcm1⟩ := HC.out.form
        obtain ⟨g2, cp2, ev2, -, -, hcp2, hcm2⟩ := HM.out.form
        obtain ⟨d, hd⟩ : ∃ d, r0.length = d := ⟨_, rfl⟩
        have t1 := (by have h := HC.out; rw [ev1] at h; exact h.top : wr.cell? ⟨g1, r0.length, none⟩ = some (cV (c0, m0)))
        have t2 := (by have h := HM.out; rw [ev2] at h; exact h.top : wr.cell? ⟨g2, r0.length, none⟩ = some (mV (c0, m0)))
        have HC2 : Hid (Stk 3 cV wr w.heap.size (.slice (some ⟨g1, 0, none⟩) d cp1) r0) := by have h := HC.out; rw [ev1] at h; rw [← hd]; exact h.pop
        have HM2 : Hid (Stk 4 mV wr w.heap.size (.slice (some ⟨g2, 0, none⟩) d cp2) r0) := by have h := HM.out; rw [ev2] at h; rw [← hd]; exact h.pop
        rw [hd] at t1 t2 ev1 ev2 hcp1 hcp2
        have hlen2 : r0.length ≤ k + 1 := by simp at hlen; omega
        have hdk : d ≤ k := by simp at hlen; omega
        have hd3 : (d : Int) ≤ 5864062014805 := by omega
        have hle2 : ∀ p ∈ r0, p.1 ≤ k + 1 := fun p hp => by have := hle p (by simp [hp]); omega
        have C1 := cut37 (some ⟨g1, 0, none⟩) (d + 1) cp1 d (by omega)
        have C2 := cut42 (some ⟨g2, 0, none⟩) (d + 1) cp2 d (by omega)
        have hmod : (c0 : Int).tmod 2 = ((c0 % 2 : Nat) : Int) := by rw [Int.tmod_eq_emod_of_nonneg (by omega)]; omega
        subst ev1 ev2 k4
        clear HC HM hle hlen hE hc hcm1 hcm2 hcp1 hcp2 HL
        rcases hor with ⟨rfl, h1, rfl⟩ | ⟨h1, h2⟩
        · rw [h1] at hmod
          have e1 : ((1 : Nat) : Int) = 1 := rfl
          rw [e1] at hmod
          clear HP HC2 HM2 hle2
          go_wp2
          go_ret
          exact ⟨rfl, hB⟩
        · have HP2 : Hid (prd r0 (L.drop (k + 1)) = some V) := h2
          cases m0 with
          | false =>
            clear HP h2 h1
            go_wp2
            go_roundw
            case rel => exact ⟨k + 1, r0, by omega, by go_num, by rw [hd]; omega, hle2, by rw [hd]; exact ⟨_, _, rfl⟩, HC2, HM2, hB, HP2⟩
            case measure => simp [intOf]; omega
          | true =>
            have h3 : c0 % 2 = 0 := by have : ¬ c0 % 2 = 1 := fun h => h1 ⟨rfl, h⟩; omega
            rw [h3] at hmod
            have e0 : ((0 : Nat) : Int) = 0 := rfl
            rw [e0] at hmod
            clear HP h2 h1 h3
            go_wp2
            go_roundw
            case rel => exact ⟨k + 1, r0, by omega, by go_num, by rw [hd]; omega, hle2, by rw [hd]; exact ⟨_, _, rfl⟩, HC2, HM2, hB, HP2⟩
            case measure => simp [intOf]; omega
      by_cases k6 : xk = 6
      · obtain ⟨c0, m0, r0, hcs, hor⟩ := prd_end (x := ⟨xk, tx, tg, an, xs, fl⟩) (by dsimp only; omega) HP.out
        subst hcs
        obtain ⟨g1, cp1, ev1, -, -, hcp1, hcm1⟩ := HC.out.form
        obtain ⟨g2, cp2, ev2, -, -, hcp2, hcm2⟩ := HM.out.form
        obtain ⟨d, hd⟩ : ∃ d, r0.length = d := ⟨_, rfl⟩
        have t1 := (by have h := HC.out; rw [ev1] at h; exact h.top : wr.cell? ⟨g1, r0.length, none⟩ = some (cV (c0, m0)))
        have t2 := (by have h := HM.out; rw [ev2] at h; exact h.top : wr.cell? ⟨g2, r0.length, none⟩ = some (mV (c0, m0)))
        have HC2 : Hid (Stk 3 cV wr w.heap.size (.slice (some ⟨g1, 0, none⟩) d cp1) r0) := by have h := HC.out; rw [ev1] at h; rw [← hd]; exact h.pop
        have HM2 : Hid (Stk 4 mV wr w.heap.size (.slice (some ⟨g2, 0, none⟩) d cp2) r0) := by have h := HM.out; rw [ev2] at h; rw [← hd]; exact h.pop
        rw [hd] at t1 t2 ev1 ev2 hcp1 hcp2
        have hlen2 : r0.length ≤ k + 1 := by simp at hlen; omega
        have hdk : d ≤ k := by simp at hlen; omega
        have hd3 : (d : Int) ≤ 5864062014805 := by omega
        have hle2 : ∀ p ∈ r0, p.1 ≤ k + 1 := fun p hp => by have := hle p (by simp [hp]); omega
        have C1 := cut37 (some ⟨g1, 0, none⟩) (d + 1) cp1 d (by omega)
        have C2 := cut42 (some ⟨g2, 0, none⟩) (d + 1) cp2 d (by omega)
        have hmod : (c0 : Int).tmod 2 = ((c0 % 2 : Nat) : Int) := by rw [Int.tmod_eq_emod_of_nonneg (by omega)]; omega
        subst ev1 ev2 k6
        clear HC HM hle hlen hE hc hcm1 hcm2 hcp1 hcp2 HL
        rcases hor with ⟨rfl, h1, rfl⟩ | ⟨h1, h2⟩
        · rw [h1] at hmod
          have e1 : ((1 : Nat) : Int) = 1 := rfl
          rw [e1] at hmod
          clear HP HC2 HM2 hle2
          go_wp2
          go_ret
          exact ⟨rfl, hB⟩
        · have HP2 : Hid (prd r0 (L.drop (k + 1)) = some V) := h2
          cases m0 with
          | false =>
            clear HP h2 h1
            go_wp2
            go_roundw
            case rel => exact ⟨k + 1, r0, by omega, by go_num, by rw [hd]; omega, hle2, by rw [hd]; exact ⟨_, _, rfl⟩, HC2, HM2, hB, HP2⟩
            case measure => simp [intOf]; omega
          | true =>
            have h3 : c0 % 2 = 0 := by have : ¬ c0 % 2 = 1 := fun h => h1 ⟨rfl, h⟩; omega
            rw [h3] at hmod
            have e0 : ((0 : Nat) : Int) = 0 := rfl
            rw [e0] at hmod
            clear HP h2 h1 h3
            go_wp2
            go_roundw
            case rel => exact ⟨k + 1, r0, by omega, by go_num, by rw [hd]; omega, hle2, by rw [hd]; exact ⟨_, _, rfl⟩, HC2, HM2, hB, HP2⟩
            case measure => simp [intOf]; omega
      by_cases k3 : xk = 3
      · have hpn : prd ((0, false) :: bump cs) (L.drop (k + 1)) = some V := by
          have h := HP.out
          rw [prd_cons, if_neg (by dsimp only; omega)] at h
          dsimp only at h
          rw [if_pos (by omega), k3] at h
          exact h
        subst k3
        cases cs with
        | nil =>
          obtain ⟨a1, cc1, ev1, -, -, -⟩ := HC.out.shape
          obtain ⟨a2, cc2, ev2, -, -, -⟩ := HM.out.shape
          subst ev1 ev2
          have HP3 : Hid (prd ((0, false) :: []) (L.drop (k + 1)) = some V) := hpn
          have HC3 := HC
          have HM3 := HM
          have hB3 : Hid (Below w.heap.size w wr) := hB
          have hl3 : ([] : List (Nat × Bool)).length = 0 := rfl
          have hle3 : ∀ p ∈ ([] : List (Nat × Bool)), p.1 ≤ k + 1 := fun p hp => by cases hp
          have hU : True := trivial
          have hB2e : ∀ {w2 : World}, Below w.heap.size w w2 → w2.cell? ⟨b, o + k * 6, none⟩ = wr.cell? ⟨b, o + k * 6, none⟩ := fun h => by
            have hbl : b < w.heap.size := hE.lt ⟨b, o, none⟩ rfl (by omega)
            exact ((h.cell (p := ⟨b, o + k * 6, none⟩) hbl)).trans ((hB.cell (p := ⟨b, o + k * 6, none⟩) hbl)).symm
          clear HC HM HP hle hlen hE hc HL hpn
          obtain ⟨g3, c3, w2, g4, c4, w3, r1, r2, s1, s2, hb2, hb3⟩ := both_push HC3.out HM3.out (Nat.le_trans hB3.out.size (Nat.le_refl _)) (by rw [hl3]; omega) false (Nat.le_refl _) hB3.out
          rw [hl3] at r1 r2 s1 s2
          have HS1 : Hid (Stk 3 cV w3 w.heap.size (.slice (some ⟨g3, 0, none⟩) (0 + 1) c3) ((0, false) :: [])) := s1
          have HS2 : Hid (Stk 4 mV w3 w.heap.size (.slice (some ⟨g4, 0, none⟩) (0 + 1) c4) ((0, false) :: [])) := s2
          have he2 := (hB2e hb2).trans e0
          clear s1 s2 HC3 HM3 hB3
          go_wp2_with (first | (at_builtin; refine wpList_append_run rfl _ _ 26 rfl rfl rfl r1 ?_; clear r1) | (at_builtin; refine wpList_append_run rfl _ _ 131 rfl rfl rfl r2 ?_; clear r2))
          go_roundw
          case rel => exact ⟨k + 1, (0, false) :: [], by omega, by go_num, by simp <;> omega, (fun p hp => by rcases List.mem_cons.1 hp with rfl | hp; exact Nat.zero_le _; exact hle3 p hp), ⟨_, _, by rw [List.length_cons, hl3]⟩, HS1, HS2, hb3, HP3⟩
          case measure => simp [intOf]; omega
        | cons p0 r0 =>
          obtain ⟨c0, m0⟩ := p0
          obtain ⟨g1, cp1, ev1, -, -, hcp1, hcm1⟩ := HC.out.form
          obtain ⟨a2, cc2, ev2, -, -, -⟩ := HM.out.shape
          obtain ⟨d, hd⟩ : ∃ d, r0.length = d := ⟨_, rfl⟩
          rw [hd] at ev1 hcp1
          rw [List.length_cons, hd] at ev2
          subst ev1 ev2
          obtain ⟨t1, t2, u1, u2, u3⟩ := both_bump hd HC.out HM.out (Nat.le_refl _) hB
          have hdk : d + 1 ≤ k := by simp at hlen; omega
          have hd3 : (d : Int) ≤ 5864062014805 := by omega
          have hc0 : c0 ≤ k := hle (c0, m0) (by simp)
          have hc3 : (c0 : Int) ≤ 5864062014805 := by omega
          have ec : ((c0 + 1 : Nat) : Int) = (c0 : Int) + 1 := by omega
          rw [ec] at u1 u2 u3
          have HP3 : Hid (prd ((0, false) :: (c0 + 1, m0) :: r0) (L.drop (k + 1)) = some V) := hpn
          have hl3 : ((c0 + 1, m0) :: r0).length = d + 1 := by simp; omega
          have hle3 : ∀ p ∈ ((c0 + 1, m0) :: r0), p.1 ≤ k + 1 := fun p hp => by
            rcases List.mem_cons.1 hp with rfl | hp
            · show c0 + 1 ≤ k + 1
              omega
            · have := hle p (by simp [hp]); omega
          have hbl : b < w.heap.size := hE.lt ⟨b, o, none⟩ rfl (by omega)
          have hB2e : ∀ {w2 : World}, Below w.heap.size w w2 → w2.cell? ⟨b, o + k * 6, none⟩ = some (.int .i64 3) := fun h => ((h.cell (p := ⟨b, o + k * 6, none⟩) hbl)).trans (((hB.cell (p := ⟨b, o + k * 6, none⟩) hbl)).symm.trans e0)
          have he1 := hB2e u3
          obtain ⟨U, hU⟩ : ∃ U, wr.setCell ⟨g1, d, none⟩ (.int .i64 ((c0 : Int) + 1)) = U := ⟨_, rfl⟩
          rw [hU] at u1 u2 u3 he1
          have HC3 : Hid (Stk 3 cV U w.heap.size (.slice (some ⟨g1, 0, none⟩) (d + 1) cp1) ((c0 + 1, m0) :: r0)) := u1
          have HM3 : Hid (Stk 4 mV U w.heap.size (.slice a2 (d + 1) cc2) ((c0 + 1, m0) :: r0)) := u2
          have hB3 : Hid (Below w.heap.size w U) := u3
          clear HC HM HP hle hlen hE hc HL hpn u1 u2 u3 ec hcp1 hcm1
          obtain ⟨g3, c3, w2, g4, c4, w3, r1, r2, s1, s2, hb2, hb3⟩ := both_push HC3.out HM3.out (Nat.le_trans hB3.out.size (Nat.le_refl _)) (by rw [hl3]; omega) false (Nat.le_refl _) hB3.out
          rw [hl3] at r1 r2 s1 s2
          have HS1 : Hid (Stk 3 cV w3 w.heap.size (.slice (some ⟨g3, 0, none⟩) (d + 1 + 1) c3) ((0, false) :: (c0 + 1, m0) :: r0)) := s1
          have HS2 : Hid (Stk 4 mV w3 w.heap.size (.slice (some ⟨g4, 0, none⟩) (d + 1 + 1) c4) ((0, false) :: (c0 + 1, m0) :: r0)) := s2
          have he2 := hB2e hb2
          clear s1 s2 HC3 HM3 hB3
          go_wp2_with (first | (rw [hU]) | (at_builtin; refine wpList_append_run rfl _ _ 26 rfl rfl rfl r1 ?_; clear r1) | (at_builtin; refine wpList_append_run rfl _ _ 131 rfl rfl rfl r2 ?_; clear r2))
          go_roundw
          case rel => exact ⟨k + 1, (0, false) :: (c0 + 1, m0) :: r0, by omega, by go_num, by simp <;> omega, (fun p hp => by rcases List.mem_cons.1 hp with rfl | hp; exact Nat.zero_le _; exact hle3 p hp), ⟨_, _, by rw [List.length_cons, hl3]⟩, HS1, HS2, hb3, HP3⟩
          case measure => simp [intOf]; omega
      by_cases k5 : xk = 5
      · have hpn : prd ((0, true) :: bump cs) (L.drop (k + 1)) = some V := by
          have h := HP.out
          rw [prd_cons, if_neg (by dsimp only; omega)] at h
          dsimp only at h
          rw [if_pos (by omega), k5] at h
          exact h
        subst k5
        cases cs with
        | nil =>
          obtain ⟨a1, cc1, ev1, -, -, -⟩ := HC.out.shape
          obtain ⟨a2, cc2, ev2, -, -, -⟩ := HM.out.shape
          subst ev1 ev2
          have HP3 : Hid (prd ((0, true) :: []) (L.drop (k + 1)) = some V) := hpn
          have HC3 := HC
          have HM3 := HM
          have hB3 : Hid (Below w.heap.size w wr) := hB
          have hl3 : ([] : List (Nat × Bool)).length = 0 := rfl
          have hle3 : ∀ p ∈ ([] : List (Nat × Bool)), p.1 ≤ k + 1 := fun p hp => by cases hp
          have hU : True := trivial
          have hB2e : ∀ {w2 : World}, Below w.heap.size w w2 → w2.cell? ⟨b, o + k * 6, none⟩ = wr.cell? ⟨b, o + k * 6, none⟩ := fun h => by
            have hbl : b < w.heap.size := hE.lt ⟨b, o, none⟩ rfl (by omega)
            exact ((h.cell (p := ⟨b, o + k * 6, none⟩) hbl)).trans ((hB.cell (p := ⟨b, o + k * 6, none⟩) hbl)).symm
          clear HC HM HP hle hlen hE hc HL hpn
          obtain ⟨g3, c3, w2, g4, c4, w3, r1, r2, s1, s2, hb2, hb3⟩ := both_push HC3.out HM3.out (Nat.le_trans hB3.out.size (Nat.le_refl _)) (by rw [hl3]; omega) true (Nat.le_refl _) hB3.out
          rw [hl3] at r1 r2 s1 s2
          have HS1 : Hid (Stk 3 cV w3 w.heap.size (.slice (some ⟨g3, 0, none⟩) (0 + 1) c3) ((0, true) :: [])) := s1
          have HS2 : Hid (Stk 4 mV w3 w.heap.size (.slice (some ⟨g4, 0, none⟩) (0 + 1) c4) ((0, true) :: [])) := s2
          have he2 := (hB2e hb2).trans e0
          clear s1 s2 HC3 HM3 hB3
          go_wp2_with (first | (at_builtin; refine wpList_append_run rfl _ _ 26 rfl rfl rfl r1 ?_; clear r1) | (at_builtin; refine wpList_append_run rfl _ _ 131 rfl rfl rfl r2 ?_; clear r2))
          go_roundw
          case rel => exact ⟨k + 1, (0, true) :: [], by omega, by go_num, by simp <;> omega, (fun p hp => by rcases List.mem_cons.1 hp with rfl | hp; exact Nat.zero_le _; exact hle3 p hp), ⟨_, _, by rw [List.length_cons, hl3]⟩, HS1, HS2, hb3, HP3⟩
          case measure => simp [intOf]; omega
        | cons p0 r0 =>
          obtain ⟨c0, m0⟩ := p0
          obtain ⟨g1, cp1, ev1, -, -, hcp1, hcm1⟩ := HC.out.form
          obtain ⟨a2, cc2, ev2, -, -, -⟩ := HM.out.shape
          obtain ⟨d, hd⟩ : ∃ d, r0.length = d := ⟨_, rfl⟩
          rw [hd] at ev1 hcp1
          rw [List.length_cons, hd] at ev2
          subst ev1 ev2
          obtain ⟨t1, t2, u1, u2, u3⟩ := both_bump hd HC.out HM.out (Nat.le_refl _) hB
          have hdk : d + 1 ≤ k := by simp at hlen; omega
          have hd3 : (d : Int) ≤ 5864062014805 := by omega
          have hc0 : c0 ≤ k := hle (c0, m0) (by simp)
          have hc3 : (c0 : Int) ≤ 5864062014805 := by omega
          have ec : ((c0 + 1 : Nat) : Int) = (c0 : Int) + 1 := by omega
          rw [ec] at u1 u2 u3
          have HP3 : Hid (prd ((0, true) :: (c0 + 1, m0) :: r0) (L.drop (k + 1)) = some V) := hpn
          have hl3 : ((c0 + 1, m0) :: r0).length = d + 1 := by simp; omega
          have hle3 : ∀ p ∈ ((c0 + 1, m0) :: r0), p.1 ≤ k + 1 := fun p hp => by
            rcases List.mem_cons.1 hp with rfl | hp
            · show c0 + 1 ≤ k + 1
              omega
            · have := hle p (by simp [hp]); omega
          have hbl : b < w.heap.size := hE.lt ⟨b, o, none⟩ rfl (by omega)
          have hB2e : ∀ {w2 : World}, Below w.heap.size w w2 → w2.cell? ⟨b, o + k * 6, none⟩ = some (.int .i64 5) := fun h => ((h.cell (p := ⟨b, o + k * 6, none⟩) hbl)).trans (((hB.cell (p := ⟨b, o + k * 6, none⟩) hbl)).symm.trans e0)
          have he1 := hB2e u3
          obtain ⟨U, hU⟩ : ∃ U, wr.setCell ⟨g1, d, none⟩ (.int .i64 ((c0 : Int) + 1)) = U := ⟨_, rfl⟩
          rw [hU] at u1 u2 u3 he1
          have HC3 : Hid (Stk 3 cV U w.heap.size (.slice (some ⟨g1, 0, none⟩) (d + 1) cp1) ((c0 + 1, m0) :: r0)) := u1
          have HM3 : Hid (Stk 4 mV U w.heap.size (.slice a2 (d + 1) cc2) ((c0 + 1, m0) :: r0)) := u2
          have hB3 : Hid (Below w.heap.size w U) := u3
          clear HC HM HP hle hlen hE hc HL hpn u1 u2 u3 ec hcp1 hcm1
          obtain ⟨g3, c3, w2, g4, c4, w3, r1, r2, s1, s2, hb2, hb3⟩ := both_push HC3.out HM3.out (Nat.le_trans hB3.out.size (Nat.le_refl _)) (by rw [hl3]; omega) true (Nat.le_refl _) hB3.out
          rw [hl3] at r1 r2 s1 s2
          have HS1 : Hid (Stk 3 cV w3 w.heap.size (.slice (some ⟨g3, 0, none⟩) (d + 1 + 1) c3) ((0, true) :: (c0 + 1, m0) :: r0)) := s1
          have HS2 : Hid (Stk 4 mV w3 w.heap.size (.slice (some ⟨g4, 0, none⟩) (d + 1 + 1) c4) ((0, true) :: (c0 + 1, m0) :: r0)) := s2
          have he2 := hB2e hb2
          clear s1 s2 HC3 HM3 hB3
          go_wp2_with (first | (rw [hU]) | (at_builtin; refine wpList_append_run rfl _ _ 26 rfl rfl rfl r1 ?_; clear r1) | (at_builtin; refine wpList_append_run rfl _ _ 131 rfl rfl rfl r2 ?_; clear r2))
          go_roundw
          case rel => exact ⟨k + 1, (0, true) :: (c0 + 1, m0) :: r0, by omega, by go_num, by simp <;> omega, (fun p hp => by rcases List.mem_cons.1 hp with rfl | hp; exact Nat.zero_le _; exact hle3 p hp), ⟨_, _, by rw [List.length_cons, hl3]⟩, HS1, HS2, hb3, HP3⟩
          case measure => simp [intOf]; omega
      have hpn : prd (bump cs) (L.drop (k + 1)) = some V := by
        have h := HP.out
        rw [prd_cons, if_neg (by dsimp only; omega)] at h
        dsimp only at h
        rw [if_neg (by omega)] at h
        exact h
      have n3 : (xk == 3) = false := by simp [k3]
      have n4 : (xk == 4) = false := by simp [k4]
      have n5 : (xk == 5) = false := by simp [k5]
      have n6 : (xk == 6) = false := by simp [k6]
      cases cs with
      | nil =>
        obtain ⟨a1, cc1, ev1, -, -, -⟩ := HC.out.shape
        obtain ⟨a2, cc2, ev2, -, -, -⟩ := HM.out.shape
        subst ev1 ev2
        have HP3 : Hid (prd ([]) (L.drop (k + 1)) = some V) := hpn
        have HC3 := HC
        have HM3 := HM
        have hB3 : Hid (Below w.heap.size w wr) := hB
        have hl3 : ([] : List (Nat × Bool)).length = 0 := rfl
        have hle3 : ∀ p ∈ ([] : List (Nat × Bool)), p.1 ≤ k + 1 := fun p hp => by cases hp
        have hU : True := trivial
        have hB2e : ∀ {w2 : World}, Below w.heap.size w w2 → w2.cell? ⟨b, o + k * 6, none⟩ = wr.cell? ⟨b, o + k * 6, none⟩ := fun h => by
          have hbl : b < w.heap.size := hE.lt ⟨b, o, none⟩ rfl (by omega)
          exact ((h.cell (p := ⟨b, o + k * 6, none⟩) hbl)).trans ((hB.cell (p := ⟨b, o + k * 6, none⟩) hbl)).symm
        clear HC HM HP hle hlen hE hc HL hpn
        clear hB2e
        go_wp2
        go_roundw
        case rel => exact ⟨k + 1, [], by omega, by go_num, by omega, hle3, by rw [hl3]; exact ⟨_, _, rfl⟩, HC3, HM3, hB3.out, HP3⟩
        case measure => simp [intOf]; omega
      | cons p0 r0 =>
        obtain ⟨c0, m0⟩ := p0
        obtain ⟨g1, cp1, ev1, -, -, hcp1, hcm1⟩ := HC.out.form
        obtain ⟨a2, cc2, ev2, -, -, -⟩ := HM.out.shape
        obtain ⟨d, hd⟩ : ∃ d, r0.length = d := ⟨_, rfl⟩
        rw [hd] at ev1 hcp1
        rw [List.length_cons, hd] at ev2
        subst ev1 ev2
        obtain ⟨t1, t2, u1, u2, u3⟩ := both_bump hd HC.out HM.out (Nat.le_refl _) hB
        have hdk : d + 1 ≤ k := by simp at hlen; omega
        have hd3 : (d : Int) ≤ 5864062014805 := by omega
        have hc0 : c0 ≤ k := hle (c0, m0) (by simp)
        have hc3 : (c0 : Int) ≤ 5864062014805 := by omega
        have ec : ((c0 + 1 : Nat) : Int) = (c0 : Int) + 1 := by omega
        rw [ec] at u1 u2 u3
        have HP3 : Hid (prd ((c0 + 1, m0) :: r0) (L.drop (k + 1)) = some V) := hpn
        have hl3 : ((c0 + 1, m0) :: r0).length = d + 1 := by simp; omega
        have hle3 : ∀ p ∈ ((c0 + 1, m0) :: r0), p.1 ≤ k + 1 := fun p hp => by
          rcases List.mem_cons.1 hp with rfl | hp
          · show c0 + 1 ≤ k + 1
            omega
          · have := hle p (by simp [hp]); omega
        have hbl : b < w.heap.size := hE.lt ⟨b, o, none⟩ rfl (by omega)
        have hB2e : ∀ {w2 : World}, Below w.heap.size w w2 → w2.cell? ⟨b, o + k * 6, none⟩ = some (.int .i64 xk) := fun h => ((h.cell (p := ⟨b, o + k * 6, none⟩) hbl)).trans (((hB.cell (p := ⟨b, o + k * 6, none⟩) hbl)).symm.trans e0)
        have he1 := hB2e u3
        obtain ⟨U, hU⟩ : ∃ U, wr.setCell ⟨g1, d, none⟩ (.int .i64 ((c0 : Int) + 1)) = U := ⟨_, rfl⟩
        rw [hU] at u1 u2 u3 he1
        have HC3 : Hid (Stk 3 cV U w.heap.size (.slice (some ⟨g1, 0, none⟩) (d + 1) cp1) ((c0 + 1, m0) :: r0)) := u1
        have HM3 : Hid (Stk 4 mV U w.heap.size (.slice a2 (d + 1) cc2) ((c0 + 1, m0) :: r0)) := u2
        have hB3 : Hid (Below w.heap.size w U) := u3
        clear HC HM HP hle hlen hE hc HL hpn u1 u2 u3 ec hcp1 hcm1
        clear hB2e
        go_wp2_with (first | (rw [hU]))
        go_roundw
        case rel => exact ⟨k + 1, (c0 + 1, m0) :: r0, by omega, by go_num, by omega, hle3, by rw [hl3]; exact ⟨_, _, rfl⟩, HC3, HM3, hB3.out, HP3⟩
        case measure => simp [intOf]; omega
    · have hge : ¬ (k : Int) < L.length := by omega
      obtain rfl : k = L.length := by omega
      have hVt : true = V := by have h := HP.out; rw [List.drop_length] at h; exact Option.some.inj h
      subst hVt
      clear HC HM HP HL
      go_wp2
      go_ret
      exact ⟨rfl, hB⟩
end Go.Proofs.YteeanpfhngoobaaGreat
