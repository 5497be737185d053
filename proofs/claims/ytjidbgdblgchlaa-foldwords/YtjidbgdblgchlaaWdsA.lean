/- FoldWords: the line that grows by blanks; what holds of the lines and the text behind each word. -/
import Derived.Test.YtjidbgdblgchlaaSpc
set_option linter.unusedVariables false
set_option linter.unusedSimpArgs false
namespace Go.Proofs.Ytjidbgdblgchlaa
open Go.RowKit Go.Shelf

theorem i64_and15 (n : Int) : bits .and .i64 n 15 = n % 16 := by
  have h3 : (BitVec.ofInt 64 15).toNat = 2 ^ 4 - 1 := by decide
  have key : (BitVec.ofInt 64 n &&& BitVec.ofInt 64 15).toNat = (n % ((2 ^ 64 : Nat) : Int)).toNat % 2 ^ 4 := by
    rw [BitVec.toNat_and, BitVec.toNat_ofInt, h3, Nat.and_two_pow_sub_one_eq_mod]
  show IntKind.i64.wrap ((BitVec.ofInt 64 n &&& BitVec.ofInt 64 15).toNat : Nat) = n % 16
  rw [key, IntKind.wrap_i64]
  omega

theorem ownsRow_on {W W' : World} {base : Nat} {e : TypeId} {size : Nat} {v : Value} {n : Nat} {xs : List Value} (h : W.ownsRow base e size v n xs) (hb : Below W.heap.size W W') : W'.ownsRow base e size v n xs := by
  obtain ⟨h1, h2 | ⟨g, cap, cur, hv, hg, hc, rest⟩⟩ := h
  · exact ⟨h1, .inl h2⟩
  · exact ⟨h1, .inr ⟨g, cap, cur, hv, hg, (hb.block g (Array.getElem?_eq_some_iff.1 hc).1).trans hc, rest⟩⟩
theorem Bld.on {w W W' : World} {vl vb vw : Value} {Rl Rb : List Row} {T : List Int} (h : Bld w W vl vb vw Rl Rb T) (hb : Below W.heap.size W W') : Bld w W' vl vb vw Rl Rb T := by
  refine ⟨ownsRow_on h.l hb, ownsRow_on h.b hb, ownsRow_on h.t hb, h.lb, fun r hr => ?_, h.below.trans (hb.mono h.below.size)⟩
  obtain ⟨⟨a1, a2, a3⟩, b, c, d⟩ := h.rows r hr
  exact ⟨⟨a1, a2, a3.on hb⟩, b, c, d⟩

/-- A line in a block that is newer than all that was built. -/
theorem fresh_off {w W : World} {vl vb vw : Value} {Rl Rb : List Row} {T : List Int} (h : Bld w W vl vb vw Rl Rb T) {g : Nat} (hg : W.heap.size ≤ g) (t : List Int) (c : Nat) : Off ⟨some ⟨g, 0, none⟩, t, c⟩ vl ∧ Off ⟨some ⟨g, 0, none⟩, t, c⟩ vb ∧ Off ⟨some ⟨g, 0, none⟩, t, c⟩ vw := by
  refine ⟨?_, ?_, ?_⟩
  · intro a e _ hv; cases e; have := (ownsM_cells h.l hv).2.1; simp at this; omega
  · intro a e _ hv; cases e; have := (ownsM_cells h.b hv).2.1; simp at this; omega
  · intro a e _ hv; cases e; have := owns_lt h.t hv; simp at this; omega
theorem rok_owns {W : World} {base g n cap : Nat} {t : List Int} (h : Owns W base (.slice (some ⟨g, 0, none⟩) n cap) t) : Rok W ⟨some ⟨g, 0, none⟩, t, cap⟩ ∧ n = t.length := by
  obtain ⟨h1, h2, h3, h4⟩ := is_of_row h
  exact ⟨⟨by show t.length ≤ cap; omega, h4, h1⟩, h2⟩

/-- append([]int of 32 and 9, w...) -/
theorem ahead (W : World) (B : Nat) (c : Int) (hI : Is W (some ⟨B, 0, none⟩) [c]) :
    ∃ g cap W1, (Builtin.append_ #[26, 26] 26 #[.slice (some ⟨W.heap.size, 0, none⟩) 2 2, .slice (some ⟨B, 0, none⟩) 1 1]).run Try.prog (W.alloc (.cells #[.int .i64 32, .int .i64 9] 3)) = .ok (.slice (some ⟨g, 0, none⟩) 3 cap) W1 ∧
      Owns W1 W.heap.size (.slice (some ⟨g, 0, none⟩) 3 cap) [32, 9, c] ∧ Below W.heap.size W W1 ∧ W.heap.size ≤ g := by
  obtain ⟨i0, hi, hz0, hz1, hz2⟩ := info_parts Try.info3
  have ho : (W.alloc (.cells #[.int .i64 32, .int .i64 9] 3)).ownsRow W.heap.size 3 1 (.slice (some ⟨W.heap.size, 0, none⟩) 2 2) 2 [.int .i64 32, .int .i64 9] :=
    ⟨by simp, .inr ⟨W.heap.size, 2, _, rfl, Nat.le_refl _, World.alloc_heap_new W _, Nat.le_refl _, by unfold maxLen; omega, by simp, by simp⟩⟩
  obtain ⟨b, o, e, hc⟩ := hI.at (by simp)
  cases e
  obtain ⟨g, cap, W1, h1, h2, h3, h4, -⟩ := run_append_lies (P := Try.prog) (W.alloc (.cells #[.int .i64 32, .int .i64 9] 3)) 26 26 W.heap.size 3 i0 (.int .i64 0) 1 8 Try.underlying26 hi hz0 hz1 hz2 rfl (by decide)
    _ 2 _ ho ⟨B, 0, none⟩ 1 1 [.int .i64 c] rfl (by
      intro j z hz
      cases j with
      | zero =>
        cases hz
        have := ((hI.alloc (.cells #[.int .i64 32, .int .i64 9] 3)).at (by simp))
        obtain ⟨b, o, e, hc⟩ := this
        cases e
        have h0 := hc 0 (by simp)
        rw [add_plain]
        exact h0
      | succ j => simp at hz) (by simp [Value.oneCell']) (by decide) (by unfold maxLen; omega) (by omega) (by simp) (W.heap.size + 1) (by simp)
  refine ⟨g, cap, W1, h1, h2, ?_, ?_⟩
  · exact ((Below.refl _ W).alloc (Nat.le_refl _) _).trans ((Below.refl _ _).grown h3 (by simp) (fun k e => by cases e; exact Nat.le_refl _))
  · rcases h4 with h4 | h4
    · cases h4; exact Nat.le_refl _
    · omega

/-- append(w, 32), where w has no room. -/
theorem behind (W : World) (B : Nat) (c : Int) (hI : Is W (some ⟨B, 0, none⟩) [c]) :
    ∃ cap W1, (Builtin.append_ #[26, 26] 26 #[.slice (some ⟨B, 0, none⟩) 1 1, .slice (some ⟨W.heap.size, 0, none⟩) 1 1]).run Try.prog (W.alloc (.cells #[.int .i64 32] 3)) = .ok (.slice (some ⟨W.heap.size + 1, 0, none⟩) 2 cap) W1 ∧
      Rok W1 ⟨some ⟨W.heap.size + 1, 0, none⟩, [c, 32], cap⟩ ∧ Below W.heap.size W W1 := by
  obtain ⟨i0, hi, hz0, hz1, hz2⟩ := info_parts Try.info3
  have hIa := hI.alloc (.cells #[.int .i64 32] 3)
  obtain ⟨b, o, e, hc⟩ := hIa.at (by simp)
  cases e
  have hb0 := hc 0 (by simp)
  obtain ⟨X, hX⟩ : ∃ X, X = W.alloc (.cells #[.int .i64 32] 3) := ⟨_, rfl⟩
  have hX32 : X.cell? ⟨W.heap.size, 0, none⟩ = some (.int .i64 32) := by rw [hX]; exact (Boxed.new W 3 (.int .i64 32)).cell
  have hXs : X.heap.size = W.heap.size + 1 := by rw [hX]; simp
  have hXb : Below W.heap.size W X := by rw [hX]; exact (Below.refl _ W).alloc (Nat.le_refl _) _
  rw [← hX] at hb0 ⊢
  have hold : (Builtin.firstCells i0.size 1 (.slice (some ⟨B, 0, none⟩) 1 1)).run Try.prog X.drew = .ok ([Value.int .i64 c]).toArray X.drew := by
    rw [hz1]
    refine run_firstCells_some X.drew 1 1 ⟨B, 0, none⟩ 1 1 [.int .i64 c] rfl (fun j z hz => ?_)
    cases j with
    | zero => cases hz; rw [add_plain]; exact hb0
    | succ j => simp at hz
  have hsrc : Src Try.prog i0.size 26 (.slice (some ⟨W.heap.size, 0, none⟩) 1 1) 1 [.int .i64 32] X := by
    rw [hz1]
    refine Src.ofSlice X Try.underlying26 ⟨W.heap.size, 0, none⟩ 1 1 [.int .i64 32] rfl (fun j z hz => ?_) (by simp [Value.oneCell'])
    cases j with
    | zero => cases hz; rw [add_plain]; exact hX32
    | succ j => simp at hz
  have hr := run_append_grow_src X 26 26 26 3 i0 (.int .i64 0) Try.underlying26 hi hz0 (some ⟨B, 0, none⟩) 1 1 [.int .i64 c] hold _ 1 [.int .i64 32] hsrc (by decide) (by decide) (by rw [hz2]; decide)
  rw [hXs] at hr
  refine ⟨_, _, hr, ⟨grownCap_ge X 2 1 3, grownCap_le_maxLen X 2 1 3 (by unfold maxLen; omega), ?_⟩, ?_⟩
  · have hn := World.alloc_heap_new X.drew (.cells (([Value.int .i64 c] ++ [Value.int .i64 32]).toArray ++ Builtin.zeroCells (Value.int .i64 0).cells (grownCap X (1 + 1) 1 3 - (1 + 1))) 3)
    rw [show X.drew.heap.size = W.heap.size + 1 from hXs] at hn
    refine .inr ⟨_, _, rfl, fun j hj => ?_⟩
    generalize X.drew.alloc (.cells (([Value.int .i64 c] ++ [Value.int .i64 32]).toArray ++ Builtin.zeroCells (Value.int .i64 0).cells (grownCap X (1 + 1) 1 3 - (1 + 1))) 3) = Y at hn ⊢
    match j, hj with
    | 0, _ =>
      simp [World.cell?, hn, iAt]
      rw [Array.getElem?_append_left (by simp)]
      rfl
    | 1, _ =>
      simp [World.cell?, hn, iAt]
      rw [Array.getElem?_append_left (by simp)]
      rfl
    | j + 2, hj => exact absurd hj (by show ¬ j + 2 < 2; omega)
  · exact (hXb.drew).alloc (by show W.heap.size ≤ X.heap.size; omega) _

/-- Blanks alone. -/
def AB (l : List Int) : Prop := ∀ x, x ∈ l → blankP x = true
/-- How a line and the bare one beside it are alike. -/
def Fit (j : Nat) (a b : List Int) : Prop := (b = [] ∧ a = [] ∧ 0 < j) ∨ ∃ (c : Int) (pre post : List Int), b = [c] ∧ a = pre ++ [c] ++ post ∧ blankP c = false ∧ AB pre ∧ AB post ∧ (j = 0 → pre = [])
def Lst (fin : Prop) (j : Nat) (a b : List Int) : Prop := ∃ (c : Int) (pre post : List Int), b = [c] ∧ a = pre ++ [c] ++ post ∧ blankP c = false ∧ AB pre ∧ AB post ∧ (j = 0 → pre = []) ∧ (fin → post = [])
/-- Behind k of n words. -/
def WdI (n k : Nat) (Rl Rb : List Row) (T : List Int) : Prop :=
  Rl.length = Rb.length ∧ (allJ spacedP Rb).1 = T ∧ Rb.length ≤ 4 * k ∧ T.length ≤ 4 * k ∧ (k = 0 → Rl = [] ∧ Rb = []) ∧
  (0 < k → 0 < Rb.length ∧ (allJ spacedP Rb).2 = (Rb.length : Int) - 1 ∧ Lst (k = n) (Rb.length - 1) (tAt Rl (Rb.length - 1)) (tAt Rb (Rb.length - 1))) ∧
  (∀ j, j < Rb.length → Fit j (tAt Rl j) (tAt Rb j)) ∧ (∀ r, r ∈ Rl ∨ r ∈ Rb → r.t.length ≤ 4)

theorem spaced_one {c : Int} (h : blankP c = false) : spacedP [c] = false := h
theorem fit_sp {j : Nat} {a b : List Int} (h : Fit j a b) : spacedP b = false := by
  rcases h with ⟨rfl, -⟩ | ⟨c, -, -, rfl, -, hc, -⟩
  · decide
  · exact hc
theorem dropF_blanks {pre rest : List Int} (h : AB pre) : dropF (pre ++ rest) = dropF rest := by
  unfold dropF
  induction pre with
  | nil => rfl
  | cons x pre ih =>
    rw [List.cons_append, List.dropWhile_cons_of_pos (h x (by simp))]
    exact ih (fun y hy => h y (by simp [hy]))
theorem dropF_word {c : Int} (rest : List Int) (h : blankP c = false) : dropF (c :: rest) = c :: rest := by
  unfold dropF
  rw [List.dropWhile_cons_of_neg (by simp [h])]
theorem dropB_word {c : Int} {post : List Int} (h : blankP c = false) (hp : AB post) : dropB ([c] ++ post) = [c] := by
  unfold dropB
  rw [List.reverse_append]
  have := dropF_blanks (pre := post.reverse) (rest := [c].reverse) (fun x hx => hp x (by simpa using hx))
  unfold dropF at this
  rw [this]
  have h2 := dropF_word [] h
  unfold dropF at h2
  rw [List.reverse_singleton, h2]
  rfl
theorem trim_word {c : Int} {pre post : List Int} (f b : Bool) (h : blankP c = false) (h1 : AB pre) (h2 : AB post) (hf : f = false → pre = []) (hb : b = false → post = []) : trimF f b (pre ++ [c] ++ post) = [c] := by
  have e1 : (if f then dropF (pre ++ [c] ++ post) else pre ++ [c] ++ post) = [c] ++ post := by
    cases f with
    | true => rw [if_pos rfl, List.append_assoc, dropF_blanks h1]; exact dropF_word post h
    | false => rw [hf rfl]; rfl
  unfold trimF
  rw [e1]
  cases b with
  | true => exact dropB_word h h2
  | false => rw [hb rfl]; rfl

/-- Flow of the lines is what is told of the bare ones. -/
theorem words_flow {n : Nat} {Rl Rb : List Row} {T : List Int} (h : WdI n n Rl Rb T) (hn : 0 < n) : flowT Rl = T ∧ wholeT spacedP Rb 1 = T ∧ wholeT spacedP Rb 0 = T ++ [10] ∧ 0 < (tAt Rb (Rb.length - 1)).length := by
  obtain ⟨h1, h2, -, -, -, h5, h6, -⟩ := h
  obtain ⟨g1, g2, g3⟩ := h5 hn
  have hlast : 0 < (tAt Rb (Rb.length - 1)).length := by obtain ⟨c, pre, post, e, -⟩ := g3; rw [e]; simp
  obtain ⟨k1, k2⟩ := whole_last spacedP hlast
  rw [h2] at k1 k2
  refine ⟨?_, k1, k2, hlast⟩
  have htr : ∀ j, j < Rb.length → trimG Rl j = tAt Rb j := by
    intro j hj
    unfold trimG
    by_cases hjl : j = Rb.length - 1
    · subst hjl
      obtain ⟨c, pre, post, e1, e2, e3, e4, e5, e6, e7⟩ := g3
      rw [e1, e2]
      exact trim_word _ _ e3 e4 e5 (fun hf => e6 (by simpa using hf)) (fun _ => e7 rfl)
    · rcases h6 j hj with ⟨e1, e2, e3⟩ | ⟨c, pre, post, e1, e2, e3, e4, e5, e6⟩
      · rw [e1, e2]
        unfold trimF dropF dropB
        split <;> split <;> rfl
      · rw [e1, e2]
        refine trim_word _ _ e3 e4 e5 (fun hf => e6 (by simpa using hf)) (fun hb => ?_)
        simp at hb
        omega
  have htl : ∀ j, j < Rb.length → tellF Rl j = tellW Rb j := by
    intro j hj
    unfold tellF tellW
    rw [htr j hj, h1]
    rcases h6 j hj with ⟨e1, -, e3⟩ | ⟨c, pre, post, e1, -⟩
    · have : j ≠ Rb.length - 1 := by rintro rfl; rw [e1] at hlast; simp at hlast
      rw [e1, decide_eq_true e3, decide_eq_true (by omega)]
      rfl
    · rw [e1]; simp
  have h0 : 0 < (tAt Rb 0).length := by
    rcases h6 0 g1 with ⟨-, -, e⟩ | ⟨c, pre, post, e1, -⟩
    · omega
    · rw [e1]; simp
  have hge : ∀ k, 0 < k → 0 ≤ (wJ spacedP Rb k).2 := by
    intro k hk
    induction k with
    | zero => omega
    | succ k ih =>
      by_cases ht : 0 < (tAt Rb k).length
      · rw [wJ_yes ht]; dsimp only; omega
      · rw [wJ_no (by omega)]
        by_cases hk0 : 0 < k
        · exact ih hk0
        · obtain rfl : k = 0 := by omega
          exact absurd h0 ht
  have main : ∀ k, k ≤ Rb.length → joinT sepFl (trimG Rl) (told (tellF Rl) k) = wJ spacedP Rb k := by
    intro k
    induction k with
    | zero => intro _; rfl
    | succ k ih =>
      intro hk
      have hlt := wJ_lt spacedP Rb k
      by_cases ht : 0 < (tAt Rb k).length
      · rw [told_yes (by rw [htl k (by omega)]; unfold tellW; simpa using ht), joinT_snoc, ih (by omega), wJ_yes ht, htr k (by omega)]
        have hs : sepFl (wJ spacedP Rb k).2 k = sepW spacedP (tAt Rb) (wJ spacedP Rb k).2 k := by
          unfold sepFl sepW
          by_cases hk0 : 0 < k
          · have := hge k hk0
            rw [if_neg (by omega), if_neg (by omega), fit_sp (h6 _ (show (wJ spacedP Rb k).2.toNat < Rb.length by omega)), fit_sp (h6 k (by omega))]
            rfl
          · obtain rfl : k = 0 := by omega
            rfl
        rw [hs]
      · rw [told_no (by rw [htl k (by omega)]; unfold tellW; exact decide_eq_false ht), ih (by omega), wJ_no (by omega)]
  have := main Rb.length (Nat.le_refl _)
  unfold flowT
  rw [h1, this]
  exact h2

theorem tAt_nils (R : List Row) (m j : Nat) (hj : R.length ≤ j) : tAt (R ++ List.replicate m nilR) j = [] := by
  unfold tAt
  rw [List.getElem?_append_right hj, List.getElem?_replicate]
  split <;> rfl
theorem tAt_lst (R : List Row) (m : Nat) (r : Row) : tAt ((R ++ List.replicate m nilR) ++ [r]) (R.length + m) = r.t := by
  have := tAt_new (R ++ List.replicate m nilR) r
  rw [List.length_append, List.length_replicate] at this
  exact this

theorem WdI_zero {n : Nat} {rl rb : Row} {c : Int} {post : List Int} (hc : blankP c = false) (hb : rb.t = [c]) (hl : rl.t = [] ++ [c] ++ post) (hp : AB post) (hp2 : post.length ≤ 1) (hfin : 0 + 1 = n → post = []) : WdI n (0 + 1) ([] ++ [rl]) ([] ++ [rb]) ([] ++ rb.t) := by
  have hb1 : tAt [rb] 0 = [c] := by rw [← hb]; rfl
  have hl1 : tAt [rl] 0 = [] ++ [c] ++ post := by rw [← hl]; rfl
  refine ⟨rfl, ?_, by simp, by rw [hb]; simp, (fun h => by omega), fun _ => ⟨by simp, ?_, ?_⟩, fun j hj => ?_, fun r hr => ?_⟩
  · rw [allJ_yes (by rw [hb]; simp), hb]; rfl
  · rw [allJ_yes (by rw [hb]; simp)]; rfl
  · exact ⟨c, [], post, hb1, hl1, hc, (fun x hx => by cases hx), hp, fun _ => rfl, hfin⟩
  · obtain rfl : j = 0 := by simp at hj; omega
    exact .inr ⟨c, [], post, hb1, hl1, hc, (fun x hx => by cases hx), hp, fun _ => rfl⟩
  · simp at hr
    rcases hr with rfl | rfl
    · rw [hl]; simp; omega
    · rw [hb]; simp

theorem WdI_step {n k m : Nat} {Rl Rb : List Row} {T TT : List Int} {rl rb : Row} {c : Int} {pre post : List Int} (h : WdI n k Rl Rb T) (hk : 0 < k) (hm : m ≤ 3) (hTT : TT = T ++ sepI (m : Int)) (hc : blankP c = false) (hb : rb.t = [c]) (hl : rl.t = pre ++ [c] ++ post)
    (hpre : AB pre) (hp : AB post) (hlen : pre.length + post.length ≤ 3) (hfin : k + 1 = n → post = []) : WdI n (k + 1) ((Rl ++ List.replicate m nilR) ++ [rl]) ((Rb ++ List.replicate m nilR) ++ [rb]) (TT ++ rb.t) := by
  obtain ⟨h1, h2, h3, h4, -, h5, h6, h7⟩ := h
  obtain ⟨g1, g2, g3⟩ := h5 hk
  have hll : (Rb ++ List.replicate m nilR).length = Rb.length + m := by simp
  have hsl : (sepI (m : Int)).length ≤ 3 := by unfold sepI; split <;> simp <;> omega
  have hnew : ((Rb ++ List.replicate m nilR) ++ [rb]).length - 1 = Rb.length + m := by simp
  have el : tAt ((Rl ++ List.replicate m nilR) ++ [rl]) (Rb.length + m) = pre ++ [c] ++ post := by rw [← h1, tAt_lst, hl]
  have eb : tAt ((Rb ++ List.replicate m nilR) ++ [rb]) (Rb.length + m) = [c] := by rw [tAt_lst, hb]
  refine ⟨by simp [h1], ?_, by simp; omega, by rw [hTT, hb]; simp; omega, (fun h => by omega), fun _ => ⟨by simp; omega, ?_, ?_⟩, fun j hj => ?_, fun r hr => ?_⟩
  · rw [allJ_yes (by rw [hb]; simp), allJ_nils, h2, g2, hTT, hll]
    dsimp only
    suffices hs : sepW spacedP (tAt ((Rb ++ List.replicate m nilR) ++ [rb])) ((Rb.length : Int) - 1) (Rb.length + m) = sepI (m : Int) by rw [hs]
    unfold sepW
    have e1 : tAt ((Rb ++ List.replicate m nilR) ++ [rb]) ((Rb.length : Int) - 1).toNat = tAt Rb (Rb.length - 1) := by
      rw [show ((Rb.length : Int) - 1).toNat = Rb.length - 1 by omega, tAt_app (by simp; omega), tAt_app (by omega)]
    rw [if_neg (by omega), e1, eb, fit_sp (h6 _ (show Rb.length - 1 < Rb.length by omega)), spaced_one hc, if_neg (by simp)]
    congr 1
    omega
  · rw [allJ_yes (by rw [hb]; simp)]
    simp
    omega
  · rw [hnew, el, eb]
    exact ⟨c, pre, post, rfl, rfl, hc, hpre, hp, fun h => by omega, hfin⟩
  · simp at hj
    by_cases hj1 : j < Rb.length
    · rw [tAt_app (by simp; omega), tAt_app (by omega), tAt_app (by simp; omega), tAt_app hj1]
      exact h6 j hj1
    · by_cases hj2 : j < Rb.length + m
      · rw [tAt_app (by simp; omega), tAt_nils _ _ _ (by omega), tAt_app (by simp; omega), tAt_nils _ _ _ (by omega)]
        exact .inl ⟨rfl, rfl, by omega⟩
      · obtain rfl : j = Rb.length + m := by omega
        rw [el, eb]
        exact .inr ⟨c, pre, post, rfl, rfl, hc, hpre, hp, fun h => by omega⟩
  · simp at hr
    rcases hr with (hr | hr | hr) | (hr | hr | hr)
    · exact h7 r (.inl hr)
    · rw [hr.2]; simp [nilR]
    · rw [hr, hl]; simp; omega
    · exact h7 r (.inr hr)
    · rw [hr.2]; simp [nilR]
    · rw [hr, hb]; simp
end Go.Proofs.Ytjidbgdblgchlaa
