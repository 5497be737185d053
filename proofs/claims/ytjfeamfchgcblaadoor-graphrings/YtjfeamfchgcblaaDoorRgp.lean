/- The graphs of GraphRings: a chain of nodes, whose last one may lead back. -/
import Derived.Test.YtjfeamfchgcblaaDoorRhf
set_option linter.all false
set_option maxRecDepth 100000
namespace Go.Proofs.YtjfeamfchgcblaaDoor

/-- The Kids of node i of n, where the last one leads back to b. -/
def rk (n b i : Nat) : List Int := if i + 1 < n then [((i + 1 : Nat) : Int)] else if b < n then [(b : Int)] else []
def rn (n b i : Nat) (q : Option Addr) : Gn := ⟨2, ⟨#[120]⟩, ⟨#[]⟩, q, rk n b i, (rk n b i).length, false⟩
theorem rk_mem {n b i : Nat} {k : Int} (hi : i < n) (h : k ∈ rk n b i) : 0 ≤ k ∧ k.toNat < n ∧ (i + 1 < n ∧ k = ((i + 1 : Nat) : Int) ∨ i + 1 = n ∧ b < n ∧ k = (b : Int)) := by
  unfold rk at h
  split at h
  · rename_i h1
    rw [List.mem_singleton] at h
    subst h
    exact ⟨by omega, by omega, .inl ⟨h1, rfl⟩⟩
  · split at h
    · rw [List.mem_singleton] at h
      subst h
      exact ⟨by omega, by omega, .inr ⟨by omega, by assumption, rfl⟩⟩
    · cases h
theorem rk_len (n b i : Nat) : (rk n b i).length ≤ 1 := by
  unfold rk
  split
  · simp
  · split <;> simp
/-- The graph. -/
structure Rg (n b : Nat) (G : List Gn) : Prop where
  l : G.length = n
  x : ∀ j, j < G.length → ∃ q, gAt G j = rn n b j q
section
variable {n b : Nat} {G : List Gn}
theorem Rg.kd (h : Rg n b G) {i : Nat} (hi : i < n) : kdN G (i : Int) = rk n b i := by
  obtain ⟨q, hq⟩ := h.x i (by rw [h.l]; exact hi)
  unfold kdN
  rw [Int.toNat_natCast, hq]
  rfl
theorem mem_gAt {G : List Gn} {x : Gn} (h : x ∈ G) : ∃ j, j < G.length ∧ gAt G j = x := by
  obtain ⟨j, hj, e⟩ := List.mem_iff_getElem.1 h
  exact ⟨j, hj, by rw [gAt_get hj, e]⟩
theorem Rg.kids (h : Rg n b G) : ∀ x ∈ G, ∀ k ∈ x.kids, 0 ≤ k ∧ k.toNat < G.length := by
  intro x hx k hk
  obtain ⟨j, hj, rfl⟩ := mem_gAt hx
  obtain ⟨q, hq⟩ := h.x j hj
  rw [hq] at hk
  rw [h.l] at hj ⊢
  have := rk_mem hj (show k ∈ rk n b j from hk)
  exact ⟨this.1, this.2.1⟩
theorem sumK_le1 : ∀ G : List Gn, (∀ x ∈ G, x.kids.length ≤ 1) → sumK G ≤ G.length
  | [], _ => Nat.le_refl _
  | x :: G, h => by
    have := sumK_le1 G fun y hy => h y (List.mem_cons_of_mem _ hy)
    have := h x (List.mem_cons_self ..)
    simp [sumK]
    omega
theorem node_x {x : Gn} (N : Int) (h1 : x.kind = 2) (h2 : x.tag = ⟨#[120]⟩) (h3 : x.text = ⟨#[]⟩) (h4 : x.plain = false) (h5 : kidsOk x.kids N = true) : nodeP ritB rvB x N = true := by
  have h := rv_x
  obtain ⟨kind, tag, text, q, kids, c, plain⟩ := x
  dsimp only at *
  subst h1 h2 h3 h4
  unfold nodeP tagOk
  dsimp only
  rw [h, h5]
  simp [kindOk]
  decide
theorem Rg.right (h : Rg n b G) (h0 : 0 < n) (h1 : n ≤ 50) : rightP ritB rvB G [0] = true := by
  have hl := h.l
  have hs := sumK_le1 G fun x hx => by
    obtain ⟨j, hj, rfl⟩ := mem_gAt hx
    obtain ⟨q, hq⟩ := h.x j hj
    rw [hq]
    exact rk_len n b j
  have ha : (G.all fun x => nodeP ritB rvB x G.length) = true := by
    rw [List.all_eq_true]
    intro x hx
    have hk := h.kids x hx
    obtain ⟨j, hj, rfl⟩ := mem_gAt hx
    obtain ⟨q, hq⟩ := h.x j hj
    refine node_x _ (by rw [hq]; rfl) (by rw [hq]; rfl) (by rw [hq]; rfl) (by rw [hq]; rfl) ?_
    unfold kidsOk
    rw [List.all_eq_true]
    intro k hk2
    have := hk k hk2
    rw [decide_eq_true_iff]
    omega
  rw [right_few (by simp; omega), ha, decide_eq_true (by omega)]
  unfold kidsOk
  rw [List.all_eq_true.2 (fun k hk => by rw [List.mem_singleton.1 hk, decide_eq_true_iff]; omega)]
  rfl
theorem Rg.may (h : Rg n b G) (h0 : 0 < n) (h1 : n ≤ 50) {r : Nat} (hr : r < n) : mayP ritB rvB G [0] r = true := by
  unfold mayP
  rw [h.right h0 h1, Bool.true_and, decide_eq_true_iff]
  have := h.l
  omega
theorem Rg.up (h : Rg n b G) : ∀ d u, u + d + 1 < n → Pth (kdN G) u ((u + d + 1 : Nat) : Int)
  | 0, u, hu => .one (by rw [h.kd (by omega)]; unfold rk; rw [if_pos (by omega)]; simp)
  | d + 1, u, hu => .trans (h.up d u (by omega)) (.one (by rw [h.kd (by omega)]; unfold rk; rw [if_pos (by omega)]; simp; omega))
theorem Rg.upto (h : Rg n b G) {u v : Nat} (huv : u < v) (hv : v < n) : Pth (kdN G) u v := by
  have := h.up (v - u - 1) u (by omega)
  rwa [show u + (v - u - 1) + 1 = v by omega] at this
theorem Rg.lt (h : Rg n b G) (hb : ¬ b < n) {x y : Int} (hp : Pth (kdN G) x y) : 0 ≤ x → x.toNat < n → x < y ∧ y.toNat < n := by
  intro h0 h1
  induction hp with
  | single e =>
    have := h.kd h1
    rw [Int.toNat_of_nonneg h0] at this
    rw [this] at e
    have := rk_mem h1 e
    omega
  | tail _ e ih =>
    rename_i m y' _
    have hm : 0 ≤ m := by omega
    have := h.kd ih.2
    rw [Int.toNat_of_nonneg hm] at this
    rw [this] at e
    have := rk_mem ih.2 e
    omega
theorem Rg.cyc (h : Rg n b G) (h0 : 0 < n) (h1 : n ≤ 50) {r : Nat} (hr : r = 0 ∨ r + 1 = n) : cycP ritB rvB G [0] r = decide (b < n) := by
  have hm := h.may h0 h1 (r := r) (by omega)
  obtain ⟨hr2, hK, e⟩ := may_in hm
  obtain ⟨N, hN⟩ := reach_met G r hr2 hK
  rw [← e] at N hN
  have hl := h.l
  rw [Bool.eq_iff_iff, cyc_iff, decide_eq_true_iff]
  constructor
  · rintro ⟨-, k, hk, hp⟩
    apply Classical.byContradiction
    intro hb
    have h2 := N.r k hk
    have := h.lt hb hp h2.1 (by omega)
    omega
  · intro hb
    have hback : Pth (kdN G) ((n - 1 : Nat) : Int) (b : Int) := .one (by rw [h.kd (by omega)]; unfold rk; rw [if_neg (by omega), if_pos hb]; simp)
    refine ⟨hm, (b : Int), (hN _).2 ?_, ?_⟩
    · by_cases e : r = b
      · left; omega
      · right
        by_cases e2 : r + 1 = n
        · obtain rfl : r = n - 1 := by omega
          exact hback
        · exact h.upto (by omega) hb
    · by_cases e : b = n - 1
      · rw [← e] at hback; exact hback
      · exact (h.upto (u := b) (v := n - 1) (by omega) (by omega)).trans hback
theorem Rg.met (h : Rg n b G) (h0 : 0 < n) (h1 : n ≤ 50) : (reachP ritB rvB G [0] 0).Nodup ∧ (∀ u : Int, u ∈ reachP ritB rvB G [0] 0 ↔ 0 ≤ u ∧ u < n) := by
  have hm := h.may h0 h1 (r := 0) h0
  obtain ⟨hr2, hK, e⟩ := may_in hm
  obtain ⟨N, hN⟩ := reach_met G ((0 : Nat) : Int) hr2 hK
  rw [← e] at N hN
  have hl := h.l
  refine ⟨N.nd, fun u => ⟨fun hu => ?_, fun hu => (hN u).2 ?_⟩⟩
  · have := N.r u hu
    omega
  · by_cases e0 : u = 0
    · left; exact e0
    · right
      have := h.upto (u := 0) (v := u.toNat) (by omega) (by omega)
      rwa [Int.toNat_of_nonneg hu.1] at this
theorem range_in (n : Nat) (u : Int) : u ∈ (List.range n).map (fun k : Nat => (k : Int)) ↔ 0 ≤ u ∧ u < n := by
  rw [List.mem_map]
  constructor
  · rintro ⟨k, hk, rfl⟩
    rw [List.mem_range] at hk
    omega
  · intro h
    exact ⟨u.toNat, by rw [List.mem_range]; omega, by omega⟩
theorem Rg.len (h : Rg n b G) (h0 : 0 < n) (h1 : n ≤ 50) : (reachP ritB rvB G [0] 0).length = n := by
  obtain ⟨a, c⟩ := h.met h0 h1
  have nd : ((List.range n).map (fun k : Nat => (k : Int))).Nodup := by
    refine List.pairwise_map.2 ((List.nodup_range (n := n)).imp fun {x y} hxy e => hxy ?_)
    omega
  have p1 := nodup_le _ _ a (fun x hx => (range_in n x).2 ((c x).1 hx))
  have p2 := nodup_le _ _ nd (fun x hx => (c x).2 ((range_in n x).1 hx))
  simp at p1 p2
  omega
theorem count_nd {L : List Int} (h : L.Nodup) (x : Int) : L.count x = if x ∈ L then 1 else 0 := by
  by_cases hx : x ∈ L
  · rw [if_pos hx]
    have h1 := List.nodup_iff_count.1 h x
    have h2 := List.count_pos_iff.2 hx
    omega
  · rw [if_neg hx, List.count_eq_zero_of_not_mem hx]
theorem sum_two (f : Int → Nat) (a c : Int) (p q : Nat) : ∀ L : List Int, (∀ u ∈ L, f u = (if u = a then p else 0) + (if u = c then q else 0)) → (L.map f).sum = p * L.count a + q * L.count c
  | [], _ => by simp
  | u :: L, h => by
    rw [List.map_cons, List.sum_cons, sum_two f a c p q L fun x hx => h x (List.mem_cons_of_mem _ hx), h u (List.mem_cons_self ..), List.count_cons, List.count_cons]
    simp only [beq_iff_eq]
    have e1 : p * (L.count a + if u = a then 1 else 0) = p * L.count a + if u = a then p else 0 := by split <;> simp [Nat.mul_add]
    have e2 : q * (L.count c + if u = c then 1 else 0) = q * L.count c + if u = c then q else 0 := by split <;> simp [Nat.mul_add]
    rw [e1, e2]
    generalize (if u = a then p else 0) = A
    generalize (if u = c then q else 0) = B
    omega
theorem Rg.uses (h : Rg n b G) (h0 : 0 < n) (h1 : n ≤ 50) : (usesP ritB rvB G [0] 0).length = n ∧ ∀ j, j < n → iAt (usesP ritB rvB G [0] 0) j = if j = b then 2 else 1 := by
  obtain ⟨a, c⟩ := h.met h0 h1
  have hm : mayP ritB rvB G [0] 0 = true := h.may h0 h1 (r := 0) h0
  have hl := h.l
  have e : usesP ritB rvB G [0] 0 = usesF G (incr (List.replicate G.length 0) 0) (reachP ritB rvB G [0] 0) := by
    unfold usesP
    rw [if_pos hm]
  rw [e]
  refine ⟨by rw [usesF_len, incr_len]; simp [hl], fun j hj => ?_⟩
  rw [usesF_at h.kids _ _ (by rw [incr_len]; simp)]
  have e0 : iAt (incr (List.replicate G.length 0) 0) j = if j = 0 then 1 else 0 := by
    unfold incr
    rw [iAt_set (by simp; omega)]
    by_cases hj0 : j = 0
    · subst hj0
      have : iAt (List.replicate G.length 0) 0 = 0 := by unfold iAt; rw [List.getElem?_replicate]; split <;> rfl
      simp [this]
    · have : iAt (List.replicate G.length 0) j = 0 := by unfold iAt; rw [List.getElem?_replicate]; split <;> rfl
      rw [if_neg (by simp; omega), if_neg hj0, this]
  rw [e0, sum_two (fun u => (kdN G u).count (j : Int)) ((j : Int) - 1) ((n : Int) - 1) (if j = 0 then 0 else 1) (if b = j then 1 else 0) _ (fun u hu => ?_), count_nd a, count_nd a]
  · have m1 : ((n : Int) - 1) ∈ reachP ritB rvB G [0] 0 := (c _).2 (by omega)
    rw [if_pos m1]
    by_cases hj0 : j = 0
    · subst hj0
      by_cases hb : b = 0
      · subst hb; simp
      · have hb2 : ¬ 0 = b := fun e => hb e.symm
        simp [hb, hb2]
    · have m2 : ((j : Int) - 1) ∈ reachP ritB rvB G [0] 0 := (c _).2 (by omega)
      rw [if_pos m2, if_neg hj0, if_neg hj0]
      by_cases hb : b = j
      · subst hb; simp
      · rw [if_neg hb, if_neg (fun e => hb e.symm)]; simp
  · have hu2 := (c u).1 hu
    obtain ⟨un, rfl⟩ : ∃ un : Nat, u = un := ⟨u.toNat, by omega⟩
    have hun : un < n := by omega
    show (kdN G (un : Int)).count (j : Int) = _
    rw [h.kd hun]
    unfold rk
    by_cases h2 : un + 1 < n
    · rw [if_pos h2, if_neg (show ¬ (un : Int) = (n : Int) - 1 by omega)]
      rw [List.count_cons, List.count_nil]
      simp only [beq_iff_eq]
      by_cases h3 : un + 1 = j
      · rw [if_pos (by omega), if_pos (by omega), if_neg (by omega)]
      · rw [if_neg (by omega), if_neg (by omega)]
    · rw [if_neg h2, if_pos (show (un : Int) = (n : Int) - 1 by omega), if_neg (show ¬ (un : Int) = (j : Int) - 1 by omega)]
      by_cases hb : b < n
      · rw [if_pos hb, List.count_cons, List.count_nil]
        simp only [beq_iff_eq]
        by_cases h3 : b = j
        · subst h3; simp
        · rw [if_neg (by omega), if_neg h3]
      · rw [if_neg hb, if_neg (by omega)]
        rfl
end
end Go.Proofs.YtjfeamfchgcblaaDoor
