/- The program's walk over a graph in plain terms: what comings tells, and what Reach, Uses and Cyclic make of it. -/
import Derived.Test.YtjfeamfchgcblaaDoorGky
set_option linter.all false
set_option maxRecDepth 100000
namespace Go.Proofs.YtjfeamfchgcblaaDoor
open Go.RowKit

/-- How a node stands: 0 not met, 1 open, 2 closed. -/
def sdAt (S : List Nat) (k : Int) : Nat := S[k.toNat]?.getD 0
def sn (S : List Nat) : List Bool := S.map fun x => decide (x ≠ 0)
def cmF (G : List Gn) : Nat → List Nat → List (Int × List Int) → List (Int × Nat)
  | 0, _, _ => []
  | _ + 1, _, [] => []
  | f + 1, S, (n, []) :: p => cmF G f (S.set n.toNat 2) p
  | f + 1, S, (n, k :: r) :: p => (k, sdAt S k) :: (if sdAt S k = 0 then cmF G f (S.set k.toNat 1) ((k, kdN G k) :: (n, r) :: p) else cmF G f S ((n, r) :: p))
def cmP (p : List (Int × List Int)) : Nat := (p.map fun x => x.2.length + 1).sum
def cmM (G : List Gn) (S : List Nat) (p : List (Int × List Int)) : Nat := left G (sn S) + cmP p
/-- What is told yet. -/
def cmE (G : List Gn) (S : List Nat) (p : List (Int × List Int)) : List (Int × Nat) := cmF G (cmM G S p) S p
def fl (p : List (Int × List Int)) : List Int := p.flatMap (·.2)

theorem sdAt_set {S : List Nat} {k j : Int} (hk0 : 0 ≤ k) (hk : k.toNat < S.length) (hj : 0 ≤ j) (v : Nat) : sdAt (S.set k.toNat v) j = if k = j then v else sdAt S j := by
  unfold sdAt
  rw [List.getElem?_set]
  by_cases e : k = j
  · subst e; simp [hk]
  · rw [if_neg (fun e2 => e (by omega)), if_neg e]
theorem sn_length (S : List Nat) : (sn S).length = S.length := by unfold sn; simp
theorem sn_at (S : List Nat) (k : Int) : snAt (sn S) k = decide (sdAt S k ≠ 0) := by
  unfold snAt sn sdAt
  rw [List.getElem?_map]
  cases S[k.toNat]? with
  | none => rfl
  | some x => rfl
theorem sn_set {S : List Nat} {k : Nat} {v : Nat} (hv : v ≠ 0) : sn (S.set k v) = (sn S).set k true := by
  unfold sn
  rw [List.map_set]
  congr 1
  simpa using hv
theorem sn_same {S : List Nat} {k : Int} {v : Nat} (hv : v ≠ 0) (h : sdAt S k ≠ 0) : sn (S.set k.toNat v) = sn S := by
  rw [sn_set hv]
  apply List.ext_getElem?
  intro j
  rw [List.getElem?_set]
  by_cases e : k.toNat = j
  · subst e
    unfold sdAt at h
    unfold sn
    rw [if_pos rfl, List.length_map, List.getElem?_map]
    cases hs : S[k.toNat]? with
    | none => rw [hs] at h; exact absurd rfl h
    | some x =>
      rw [hs] at h
      have hl := (List.getElem?_eq_some_iff.1 hs).1
      rw [if_pos hl]
      simp at h
      simp [h]
  · rw [if_neg e]
theorem cmE_nil (G : List Gn) (S : List Nat) : cmE G S [] = [] := by
  unfold cmE
  cases cmM G S [] <;> rfl
theorem cmM_close {G : List Gn} {S : List Nat} {n : Int} {p : List (Int × List Int)} (h : sdAt S n ≠ 0) : cmM G S ((n, []) :: p) = cmM G (S.set n.toNat 2) p + 1 := by
  unfold cmM cmP
  rw [sn_same (by omega) h, List.map_cons, List.sum_cons]
  simp
  omega
theorem cmE_close {G : List Gn} {S : List Nat} {n : Int} {p : List (Int × List Int)} (h : sdAt S n ≠ 0) : cmE G S ((n, []) :: p) = cmE G (S.set n.toNat 2) p := by
  unfold cmE
  rw [cmM_close h, cmF]
theorem cmM_seen {G : List Gn} {S : List Nat} {n k : Int} {r : List Int} {p : List (Int × List Int)} : cmM G S ((n, k :: r) :: p) = cmM G S ((n, r) :: p) + 1 := by
  unfold cmM cmP
  rw [List.map_cons, List.sum_cons, List.map_cons, List.sum_cons]
  simp
  omega
theorem cmE_seen {G : List Gn} {S : List Nat} {n k : Int} {r : List Int} {p : List (Int × List Int)} (h : sdAt S k ≠ 0) : cmE G S ((n, k :: r) :: p) = (k, sdAt S k) :: cmE G S ((n, r) :: p) := by
  unfold cmE
  rw [cmM_seen, cmF, if_neg h]
theorem cmM_new {G : List Gn} {S : List Nat} {n k : Int} {r : List Int} {p : List (Int × List Int)} (hk : k.toNat < S.length) (h : sdAt S k = 0) : cmM G S ((n, k :: r) :: p) = cmM G (S.set k.toNat 1) ((k, kdN G k) :: (n, r) :: p) + 1 := by
  unfold cmM cmP
  rw [sn_set (by omega)]
  have hs : (sn S)[k.toNat]?.getD false = false := by
    have := sn_at S k
    unfold snAt at this
    rw [this, h]
    rfl
  have := left_see G (sn S) k.toNat (by rw [sn_length]; exact hk) hs
  have e : (kdN G k).length = (gAt G k.toNat).kids.length := rfl
  simp
  omega
theorem cmE_new {G : List Gn} {S : List Nat} {n k : Int} {r : List Int} {p : List (Int × List Int)} (hk : k.toNat < S.length) (h : sdAt S k = 0) : cmE G S ((n, k :: r) :: p) = (k, 0) :: cmE G (S.set k.toNat 1) ((k, kdN G k) :: (n, r) :: p) := by
  unfold cmE
  rw [cmM_new hk h, cmF, if_pos h, h]

/-- What holds all along. -/
structure Okp (G : List Gn) (S : List Nat) (p : List (Int × List Int)) : Prop where
  l : S.length = G.length
  r : ∀ x ∈ p, ∀ k ∈ x.2, 0 ≤ k ∧ k.toNat < G.length
  n : ∀ x ∈ p, 0 ≤ x.1 ∧ x.1.toNat < G.length ∧ sdAt S x.1 ≠ 0
theorem kdN_range {G : List Gn} {n : Nat} (hG : ∀ x ∈ G, ∀ k ∈ x.kids, 0 ≤ k ∧ k.toNat < n) (u : Int) : ∀ j ∈ kdN G u, 0 ≤ j ∧ j.toNat < n := by
  intro j hj
  unfold kdN at hj
  by_cases hu : u.toNat < G.length
  · exact hG _ (gAt_mem hu) j hj
  · unfold gAt at hj
    rw [List.getElem?_eq_none (by omega)] at hj
    cases hj
section
variable {G : List Gn} {S : List Nat} {n k : Int} {r : List Int} {p : List (Int × List Int)}
theorem Okp.close (h : Okp G S ((n, r) :: p)) : Okp G (S.set n.toNat 2) p := by
  obtain ⟨h1, h2, h3⟩ := h
  obtain ⟨n0, n1, n2⟩ := h3 _ (List.mem_cons_self ..)
  dsimp only at n0 n1 n2
  refine ⟨by rw [List.length_set]; exact h1, fun x hx => h2 x (List.mem_cons_of_mem _ hx), fun x hx => ?_⟩
  obtain ⟨m0, m1, m2⟩ := h3 x (List.mem_cons_of_mem _ hx)
  refine ⟨m0, m1, ?_⟩
  rw [sdAt_set n0 (by omega) m0]
  split
  · omega
  · exact m2
theorem Okp.kid (h : Okp G S ((n, k :: r) :: p)) : 0 ≤ k ∧ k.toNat < G.length := h.r _ (List.mem_cons_self ..) k (List.mem_cons_self ..)
theorem Okp.seen (h : Okp G S ((n, k :: r) :: p)) : Okp G S ((n, r) :: p) := by
  obtain ⟨h1, h2, h3⟩ := h
  refine ⟨h1, fun x hx => ?_, fun x hx => ?_⟩
  · rcases List.mem_cons.1 hx with rfl | hx
    · exact fun j hj => h2 _ (List.mem_cons_self ..) j (List.mem_cons_of_mem _ hj)
    · exact h2 x (List.mem_cons_of_mem _ hx)
  · rcases List.mem_cons.1 hx with rfl | hx
    · exact h3 (n, k :: r) (List.mem_cons_self ..)
    · exact h3 x (List.mem_cons_of_mem _ hx)
theorem Okp.new (hG : ∀ x ∈ G, ∀ k ∈ x.kids, 0 ≤ k ∧ k.toNat < G.length) (h : Okp G S ((n, k :: r) :: p)) : Okp G (S.set k.toNat 1) ((k, kdN G k) :: (n, r) :: p) := by
  obtain ⟨k0, k1⟩ := h.kid
  obtain ⟨h1, h2, h3⟩ := h.seen
  refine ⟨by rw [List.length_set]; exact h1, fun x hx => ?_, fun x hx => ?_⟩
  · rcases List.mem_cons.1 hx with rfl | hx
    · exact kdN_range hG k
    · exact h2 x hx
  · rcases List.mem_cons.1 hx with rfl | hx
    · refine ⟨k0, k1, ?_⟩
      rw [sdAt_set k0 (by omega) k0, if_pos rfl]
      omega
    · obtain ⟨m0, m1, m2⟩ := h3 x hx
      refine ⟨m0, m1, ?_⟩
      rw [sdAt_set k0 (by omega) m0]
      split
      · omega
      · exact m2
theorem cm_ind (hG : ∀ x ∈ G, ∀ k ∈ x.kids, 0 ≤ k ∧ k.toNat < G.length) (mot : List Nat → List (Int × List Int) → Prop) (h0 : ∀ S, mot S [])
    (h1 : ∀ S n p, Okp G S ((n, []) :: p) → mot (S.set n.toNat 2) p → mot S ((n, []) :: p))
    (h2 : ∀ S n k r p, Okp G S ((n, k :: r) :: p) → sdAt S k ≠ 0 → mot S ((n, r) :: p) → mot S ((n, k :: r) :: p))
    (h3 : ∀ S n k r p, Okp G S ((n, k :: r) :: p) → sdAt S k = 0 → mot (S.set k.toNat 1) ((k, kdN G k) :: (n, r) :: p) → mot S ((n, k :: r) :: p)) :
    ∀ m S p, cmM G S p ≤ m → Okp G S p → mot S p := by
  intro m
  induction m with
  | zero =>
    intro S p hm ho
    cases p with
    | nil => exact h0 S
    | cons x p => unfold cmM cmP at hm; rw [List.map_cons, List.sum_cons] at hm; omega
  | succ m ih =>
    intro S p hm ho
    cases p with
    | nil => exact h0 S
    | cons x p =>
      obtain ⟨n, r⟩ := x
      cases r with
      | nil =>
        have hs : sdAt S n ≠ 0 := (ho.n _ (List.mem_cons_self ..)).2.2
        rw [cmM_close hs] at hm
        exact h1 S n p ho (ih _ _ (by omega) ho.close)
      | cons k r =>
        by_cases hs : sdAt S k = 0
        · have := ho.kid
          rw [cmM_new (by rw [ho.l]; exact this.2) hs] at hm
          exact h3 S n k r p ho hs (ih _ _ (by omega) (ho.new hG))
        · rw [cmM_seen] at hm
          exact h2 S n k r p ho hs (ih _ _ (by omega) ho.seen)
end
theorem fl_cons (n : Int) (r : List Int) (p : List (Int × List Int)) : fl ((n, r) :: p) = r ++ fl p := rfl
theorem fl_range {G : List Gn} {S : List Nat} {p : List (Int × List Int)} (h : Okp G S p) : ∀ j ∈ fl p, 0 ≤ j ∧ j.toNat < (sn S).length := by
  intro j hj
  unfold fl at hj
  obtain ⟨x, hx, hjx⟩ := List.mem_flatMap.1 hj
  rw [sn_length, h.l]
  exact h.r x hx j hjx
/-- Those that are told as not met are those that are met. -/
theorem cm_reach {G : List Gn} (hG : ∀ x ∈ G, ∀ k ∈ x.kids, 0 ≤ k ∧ k.toNat < G.length) (S : List Nat) (p : List (Int × List Int)) (ho : Okp G S p) :
    ((cmE G S p).filter fun x => decide (x.2 = 0)).map (·.1) = rcE G (sn S) (fl p) := by
  refine cm_ind hG (fun S p => ((cmE G S p).filter fun x => decide (x.2 = 0)).map (·.1) = rcE G (sn S) (fl p)) (fun S => ?_) (fun S n p ho ih => ?_) (fun S n k r p ho hs ih => ?_) (fun S n k r p ho hs ih => ?_) _ S p (Nat.le_refl _) ho
  · rw [cmE_nil]; exact (rcE_nil G _).symm
  · have hn := (ho.n _ (List.mem_cons_self ..)).2.2
    rw [cmE_close hn, ih, sn_same (by omega) hn]
    rfl
  · rw [cmE_seen hs, List.filter_cons_of_neg (by simpa using hs), ih, fl_cons, fl_cons, List.cons_append]
    exact (rcE_seen (fun j hj => fl_range ho.seen j hj) (by rw [sn_length, ho.l]; exact hG) (by rw [sn_at]; simpa using hs)).symm
  · obtain ⟨k0, k1⟩ := ho.kid
    have e2 : fl ((n, k :: r) :: p) = k :: fl ((n, r) :: p) := rfl
    have e3 : fl ((k, kdN G k) :: (n, r) :: p) = kdN G k ++ fl ((n, r) :: p) := rfl
    rw [cmE_new (by rw [ho.l]; exact k1) hs, List.filter_cons_of_pos (by simp), List.map_cons, ih, e2, e3, sn_set (by omega)]
    exact ((rcE_new k0 (by rw [sn_length, ho.l]; exact k1) (fun j hj => fl_range ho.seen j hj) (by rw [sn_length, ho.l]; exact hG) (by rw [sn_at]; simpa using hs)).1).symm
/-- How often each is told. -/
theorem cm_count {G : List Gn} (hG : ∀ x ∈ G, ∀ k ∈ x.kids, 0 ≤ k ∧ k.toNat < G.length) (j : Int) (S : List Nat) (p : List (Int × List Int)) (ho : Okp G S p) :
    ((cmE G S p).map (·.1)).count j = (fl p).count j + ((rcE G (sn S) (fl p)).map fun u => (kdN G u).count j).sum := by
  refine cm_ind hG (fun S p => ((cmE G S p).map (·.1)).count j = (fl p).count j + ((rcE G (sn S) (fl p)).map fun u => (kdN G u).count j).sum) (fun S => ?_) (fun S n p ho ih => ?_) (fun S n k r p ho hs ih => ?_) (fun S n k r p ho hs ih => ?_) _ S p (Nat.le_refl _) ho
  · rw [cmE_nil]
    have : fl [] = [] := rfl
    rw [this, rcE_nil]
    rfl
  · have hn := (ho.n _ (List.mem_cons_self ..)).2.2
    rw [cmE_close hn, ih, sn_same (by omega) hn]
    rfl
  · have e := rcE_seen (G := G) (S := sn S) (k := k) (T := fl ((n, r) :: p)) (fun j hj => fl_range ho.seen j hj) (by rw [sn_length, ho.l]; exact hG) (by rw [sn_at]; simpa using hs)
    have e2 : fl ((n, k :: r) :: p) = k :: fl ((n, r) :: p) := rfl
    rw [cmE_seen hs, List.map_cons, List.count_cons, ih, e2, e, List.count_cons]
    dsimp only
    omega
  · obtain ⟨k0, k1⟩ := ho.kid
    have e := (rcE_new (G := G) (S := sn S) (k := k) (T := fl ((n, r) :: p)) k0 (by rw [sn_length, ho.l]; exact k1) (fun j hj => fl_range ho.seen j hj) (by rw [sn_length, ho.l]; exact hG) (by rw [sn_at]; simpa using hs)).1
    have e2 : fl ((n, k :: r) :: p) = k :: fl ((n, r) :: p) := rfl
    have e3 : fl ((k, kdN G k) :: (n, r) :: p) = kdN G k ++ fl ((n, r) :: p) := rfl
    rw [e3, sn_set (by omega)] at ih
    rw [cmE_new (by rw [ho.l]; exact k1) hs, List.map_cons, List.count_cons, ih, e2, e, List.count_cons, List.map_cons, List.sum_cons, List.count_append]
    dsimp only
    omega

/-- The path: each node is a Kid of the one below it, and each is come to from the root. -/
def Chn (G : List Gn) : List (Int × List Int) → Prop
  | [] => True
  | [_] => True
  | a :: b :: p => a.1 ∈ kdN G b.1 ∧ Chn G (b :: p)
theorem chn_pth {G : List Gn} : ∀ (p : List (Int × List Int)) (a : Int × List Int), Chn G (a :: p) → ∀ x ∈ a :: p, x.1 = a.1 ∨ Pth (kdN G) x.1 a.1
  | [], a, _, x, hx => by rcases List.mem_singleton.1 hx with rfl; exact .inl rfl
  | b :: p, a, h, x, hx => by
    rcases List.mem_cons.1 hx with rfl | hx
    · exact .inl rfl
    · rcases chn_pth p b h.2 x hx with e | e
      · exact .inr (by rw [e]; exact .one h.1)
      · exact .inr (e.trans (.one h.1))
theorem chn_top {G : List Gn} {n : Int} {r r' : List Int} {p : List (Int × List Int)} (h : Chn G ((n, r) :: p)) : Chn G ((n, r') :: p) := by
  cases p with
  | nil => trivial
  | cons b p => exact h
theorem chn_pop {G : List Gn} {x : Int × List Int} {p : List (Int × List Int)} (h : Chn G (x :: p)) : Chn G p := by
  cases p with
  | nil => trivial
  | cons b p => exact h.2
structure Cyi (G : List Gn) (root : Int) (S : List Nat) (p : List (Int × List Int)) : Prop where
  c : Chn G p
  k : ∀ x ∈ p, ∀ j ∈ x.2, j ∈ kdN G x.1
  o : ∀ k, 0 ≤ k → sdAt S k = 1 → ∃ x ∈ p, x.1 = k
  r : ∀ x ∈ p, x.1 = root ∨ Pth (kdN G) root x.1
theorem cm_ring {G : List Gn} (hG : ∀ x ∈ G, ∀ k ∈ x.kids, 0 ≤ k ∧ k.toNat < G.length) (root : Int) (S : List Nat) (p : List (Int × List Int)) (ho : Okp G S p) :
    Cyi G root S p → (∃ x ∈ cmE G S p, x.2 = 1) → ∃ k, (k = root ∨ Pth (kdN G) root k) ∧ Pth (kdN G) k k := by
  refine cm_ind hG (fun S p => Cyi G root S p → (∃ x ∈ cmE G S p, x.2 = 1) → ∃ k, (k = root ∨ Pth (kdN G) root k) ∧ Pth (kdN G) k k) (fun S => ?_) (fun S n p ho ih => ?_) (fun S n k r p ho hs ih => ?_) (fun S n k r p ho hs ih => ?_) _ S p (Nat.le_refl _) ho
  · rintro - ⟨x, hx, -⟩
    rw [cmE_nil] at hx
    cases hx
  · intro hc hx
    obtain ⟨n0, n1, hn⟩ := ho.n _ (List.mem_cons_self ..)
    dsimp only at n0 n1 hn
    rw [cmE_close hn] at hx
    refine ih ⟨chn_pop hc.c, fun x hx => hc.k x (List.mem_cons_of_mem _ hx), fun k hk0 hk => ?_, fun x hx => hc.r x (List.mem_cons_of_mem _ hx)⟩ hx
    rw [sdAt_set n0 (by rw [ho.l]; exact n1) hk0] at hk
    by_cases e : n = k
    · rw [if_pos e] at hk; omega
    · rw [if_neg e] at hk
      obtain ⟨x, hx, e2⟩ := hc.o k hk0 hk
      rcases List.mem_cons.1 hx with rfl | hx
      · exact absurd e2 e
      · exact ⟨x, hx, e2⟩
  · intro hc hx
    obtain ⟨k0, k1⟩ := ho.kid
    rw [cmE_seen hs] at hx
    obtain ⟨x, hx, h1⟩ := hx
    have hkn : k ∈ kdN G n := hc.k _ (List.mem_cons_self ..) k (List.mem_cons_self ..)
    rcases List.mem_cons.1 hx with rfl | hx
    · dsimp only at h1
      obtain ⟨y, hy, e⟩ := hc.o k k0 h1
      refine ⟨k, ?_, ?_⟩
      · have := hc.r y hy
        rw [e] at this
        exact this
      · rcases chn_pth p (n, k :: r) hc.c y hy with e2 | e2
        · rw [e] at e2
          have e3 : k = n := e2
          exact .one (e3 ▸ hkn)
        · rw [e] at e2
          exact e2.trans (.one hkn)
    · refine ih ⟨chn_top hc.c, fun x hx => ?_, fun k hk0 hk => ?_, fun x hx => ?_⟩ ⟨x, hx, h1⟩
      · rcases List.mem_cons.1 hx with rfl | hx
        · exact fun j hj => hc.k _ (List.mem_cons_self ..) j (List.mem_cons_of_mem _ hj)
        · exact hc.k x (List.mem_cons_of_mem _ hx)
      · obtain ⟨x, hx, e2⟩ := hc.o k hk0 hk
        rcases List.mem_cons.1 hx with rfl | hx
        · exact ⟨_, List.mem_cons_self .., e2⟩
        · exact ⟨x, List.mem_cons_of_mem _ hx, e2⟩
      · rcases List.mem_cons.1 hx with rfl | hx
        · exact hc.r (n, k :: r) (List.mem_cons_self ..)
        · exact hc.r x (List.mem_cons_of_mem _ hx)
  · intro hc hx
    obtain ⟨k0, k1⟩ := ho.kid
    rw [cmE_new (by rw [ho.l]; exact k1) hs] at hx
    obtain ⟨x, hx, h1⟩ := hx
    have hkn : k ∈ kdN G n := hc.k _ (List.mem_cons_self ..) k (List.mem_cons_self ..)
    rcases List.mem_cons.1 hx with rfl | hx
    · cases h1
    · refine ih ⟨⟨hkn, chn_top hc.c⟩, fun x hx => ?_, fun j hj0 hj => ?_, fun x hx => ?_⟩ ⟨x, hx, h1⟩
      · rcases List.mem_cons.1 hx with rfl | hx
        · exact fun j hj => hj
        · rcases List.mem_cons.1 hx with rfl | hx
          · exact fun j hj => hc.k _ (List.mem_cons_self ..) j (List.mem_cons_of_mem _ hj)
          · exact hc.k x (List.mem_cons_of_mem _ hx)
      · rw [sdAt_set k0 (by rw [ho.l]; exact k1) hj0] at hj
        by_cases e : k = j
        · exact ⟨_, List.mem_cons_self .., e⟩
        · rw [if_neg e] at hj
          obtain ⟨x, hx, e2⟩ := hc.o j hj0 hj
          rcases List.mem_cons.1 hx with rfl | hx
          · exact ⟨_, List.mem_cons_of_mem _ (List.mem_cons_self ..), e2⟩
          · exact ⟨x, List.mem_cons_of_mem _ (List.mem_cons_of_mem _ hx), e2⟩
      · have hn := hc.r (n, k :: r) (List.mem_cons_self ..)
        rcases List.mem_cons.1 hx with rfl | hx
        · refine .inr ?_
          rcases hn with e | e
          · have e' : n = root := e
            exact .one (e' ▸ hkn)
          · exact Pth.trans e (.one hkn)
        · rcases List.mem_cons.1 hx with rfl | hx
          · exact hn
          · exact hc.r x (List.mem_cons_of_mem _ hx)

/-- What of each path's node's Kids is looked at is closed, or is the node above. -/
def PI (G : List Gn) (g : List Int) : Option Int → List (Int × List Int) → Prop
  | _, [] => True
  | a, (n, r) :: p => (∃ pre, kdN G n = pre ++ r ∧ ∀ j ∈ pre, j ∈ g ∨ a = some j) ∧ PI G g (some n) p
theorem PI.more {G : List Gn} {g g' : List Int} : ∀ {p : List (Int × List Int)} {a a' : Option Int}, PI G g a p → (∀ j, j ∈ g → j ∈ g') → (∀ j, a = some j → j ∈ g' ∨ a' = some j) → PI G g' a' p
  | [], _, _, _, _, _ => trivial
  | (n, r) :: p, a, a', h, hg, ha => by
    obtain ⟨⟨pre, e, h1⟩, h2⟩ := h
    exact ⟨⟨pre, e, fun j hj => (h1 j hj).elim (fun h => .inl (hg j h)) (ha j)⟩, h2.more hg (fun j hj => .inr hj)⟩
structure Iv (G : List Gn) (g : List Int) (S : List Nat) (p : List (Int × List Int)) : Prop where
  o : Ord (kdN G) g
  nd : g.Nodup
  g2 : ∀ j ∈ g, 0 ≤ j ∧ sdAt S j = 2
  s2 : ∀ j, 0 ≤ j → sdAt S j = 2 → j ∈ g
  le : ∀ j, 0 ≤ j → sdAt S j ≤ 2
  pi : PI G g none p
  p1 : ∀ x ∈ p, sdAt S x.1 = 1
  pn : (p.map (·.1)).Nodup
theorem cm_tree {G : List Gn} (hG : ∀ x ∈ G, ∀ k ∈ x.kids, 0 ≤ k ∧ k.toNat < G.length) (S : List Nat) (p : List (Int × List Int)) (ho : Okp G S p) :
    ∀ g, Iv G g S p → (∀ x ∈ cmE G S p, x.2 ≠ 1) → ∃ g', Ord (kdN G) g' ∧ g'.Nodup ∧ (∀ j ∈ g, j ∈ g') ∧ (∀ x ∈ p, x.1 ∈ g') ∧ ∀ u ∈ rcE G (sn S) (fl p), u ∈ g' := by
  refine cm_ind hG (fun S p => ∀ g, Iv G g S p → (∀ x ∈ cmE G S p, x.2 ≠ 1) → ∃ g', Ord (kdN G) g' ∧ g'.Nodup ∧ (∀ j ∈ g, j ∈ g') ∧ (∀ x ∈ p, x.1 ∈ g') ∧ ∀ u ∈ rcE G (sn S) (fl p), u ∈ g') (fun S => ?_) (fun S n p ho ih => ?_) (fun S n k r p ho hs ih => ?_) (fun S n k r p ho hs ih => ?_) _ S p (Nat.le_refl _) ho
  · intro g hi _
    refine ⟨g, hi.o, hi.nd, fun j hj => hj, fun x hx => (by cases hx), fun u hu => ?_⟩
    have : fl [] = [] := rfl
    rw [this, rcE_nil] at hu
    cases hu
  · intro g hi hx
    obtain ⟨n0, n1, hn⟩ := ho.n _ (List.mem_cons_self ..)
    dsimp only at n0 n1 hn
    rw [cmE_close hn] at hx
    have hn1 : sdAt S n = 1 := hi.p1 _ (List.mem_cons_self ..)
    have hng : n ∉ g := fun h => by have := (hi.g2 n h).2; omega
    have hset : ∀ j, 0 ≤ j → sdAt (S.set n.toNat 2) j = if n = j then 2 else sdAt S j := fun j hj => sdAt_set n0 (by rw [ho.l]; exact n1) hj 2
    obtain ⟨⟨pre, e, h1⟩, hpi⟩ := hi.pi
    rw [List.append_nil] at e
    have hpn := hi.pn
    rw [List.map_cons, List.nodup_cons] at hpn
    obtain ⟨g', a1, a2, a3, a4, a5⟩ := ih (g ++ [n]) ⟨hi.o.snoc (fun j hj => by
        rw [e] at hj
        rcases h1 j hj with h | h
        · exact h
        · cases h), List.nodup_append.2 ⟨hi.nd, by simp, fun a ha b hb => by
          rw [List.mem_singleton.1 hb]
          rintro rfl
          exact hng ha⟩, fun j hj => by
        rcases List.mem_append.1 hj with hj | hj
        · have := hi.g2 j hj
          refine ⟨this.1, ?_⟩
          rw [hset j this.1]
          split
          · rfl
          · exact this.2
        · rw [List.mem_singleton.1 hj, hset n n0, if_pos rfl]
          exact ⟨n0, rfl⟩, fun j hj0 hj => by
        rw [hset j hj0] at hj
        by_cases e2 : n = j
        · rw [e2]; simp
        · rw [if_neg e2] at hj
          exact List.mem_append_left _ (hi.s2 j hj0 hj), fun j hj0 => by
        rw [hset j hj0]
        split
        · omega
        · exact hi.le j hj0, hpi.more (fun j hj => List.mem_append_left _ hj) (fun j hj => by cases hj; exact .inl (by simp)), fun x hx => by
        have hx0 := (ho.n x (List.mem_cons_of_mem _ hx)).1
        rw [hset _ hx0, if_neg (fun e2 => hpn.1 (by rw [e2]; exact List.mem_map.2 ⟨x, hx, rfl⟩))]
        exact hi.p1 x (List.mem_cons_of_mem _ hx), hpn.2⟩ hx
    refine ⟨g', a1, a2, fun j hj => a3 j (List.mem_append_left _ hj), fun x hx => ?_, ?_⟩
    · rcases List.mem_cons.1 hx with rfl | hx
      · exact a3 n (by simp)
      · exact a4 x hx
    · rw [sn_same (by omega) hn] at a5
      exact a5
  · intro g hi hx
    obtain ⟨k0, k1⟩ := ho.kid
    rw [cmE_seen hs] at hx
    have hk1 : sdAt S k ≠ 1 := hx _ (List.mem_cons_self ..)
    have hk2 : sdAt S k = 2 := by have := hi.le k k0; omega
    have hkg := hi.s2 k k0 hk2
    obtain ⟨⟨pre, e, h1⟩, hpi⟩ := hi.pi
    obtain ⟨g', a1, a2, a3, a4, a5⟩ := ih g ⟨hi.o, hi.nd, hi.g2, hi.s2, hi.le, ⟨⟨pre ++ [k], by rw [e]; simp, fun j hj => by
      rcases List.mem_append.1 hj with hj | hj
      · exact h1 j hj
      · rw [List.mem_singleton.1 hj]; exact .inl hkg⟩, hpi⟩, fun x hx => by
        rcases List.mem_cons.1 hx with rfl | hx
        · exact hi.p1 (n, k :: r) (List.mem_cons_self ..)
        · exact hi.p1 x (List.mem_cons_of_mem _ hx), hi.pn⟩ (fun x hx2 => hx x (List.mem_cons_of_mem _ hx2))
    refine ⟨g', a1, a2, a3, fun x hx => ?_, ?_⟩
    · rcases List.mem_cons.1 hx with rfl | hx
      · exact a4 (n, r) (List.mem_cons_self ..)
      · exact a4 x (List.mem_cons_of_mem _ hx)
    · have e2 : fl ((n, k :: r) :: p) = k :: fl ((n, r) :: p) := rfl
      rw [e2, rcE_seen (fun j hj => fl_range ho.seen j hj) (by rw [sn_length, ho.l]; exact hG) (by rw [sn_at]; simpa using hs)]
      exact a5
  · intro g hi hx
    obtain ⟨k0, k1⟩ := ho.kid
    rw [cmE_new (by rw [ho.l]; exact k1) hs] at hx
    have hset : ∀ j, 0 ≤ j → sdAt (S.set k.toNat 1) j = if k = j then 1 else sdAt S j := fun j hj => sdAt_set k0 (by rw [ho.l]; exact k1) hj 1
    obtain ⟨⟨pre, e, h1⟩, hpi⟩ := hi.pi
    have hkp : ∀ x ∈ (n, k :: r) :: p, x.1 ≠ k := fun x hx e2 => by have := hi.p1 x hx; rw [e2] at this; omega
    have hmem : ∀ x ∈ (n, r) :: p, ∃ y ∈ (n, k :: r) :: p, y.1 = x.1 := fun x hx => by
      rcases List.mem_cons.1 hx with rfl | hx
      · exact ⟨_, List.mem_cons_self .., rfl⟩
      · exact ⟨x, List.mem_cons_of_mem _ hx, rfl⟩
    obtain ⟨g', a1, a2, a3, a4, a5⟩ := ih g ⟨hi.o, hi.nd, fun j hj => by
        have := hi.g2 j hj
        refine ⟨this.1, ?_⟩
        rw [hset j this.1, if_neg (fun e2 => by rw [e2] at hs; omega)]
        exact this.2, fun j hj0 hj => by
        rw [hset j hj0] at hj
        by_cases e2 : k = j
        · rw [if_pos e2] at hj; omega
        · rw [if_neg e2] at hj
          exact hi.s2 j hj0 hj, fun j hj0 => by
        rw [hset j hj0]
        split
        · omega
        · exact hi.le j hj0, ⟨⟨[], rfl, fun j hj => (by cases hj)⟩, ⟨pre ++ [k], by rw [e]; simp, fun j hj => by
          rcases List.mem_append.1 hj with hj | hj
          · rcases h1 j hj with h | h
            · exact .inl h
            · cases h
          · rw [List.mem_singleton.1 hj]; exact .inr rfl⟩, hpi⟩, fun x hx => by
        rcases List.mem_cons.1 hx with rfl | hx
        · rw [hset k k0, if_pos rfl]
        · obtain ⟨y, hy, ey⟩ := hmem x hx
          have hy0 := (ho.n y hy).1
          rw [← ey, hset _ hy0, if_neg (fun e2 => hkp y hy e2.symm)]
          exact hi.p1 y hy, by
        rw [List.map_cons, List.nodup_cons]
        refine ⟨fun hm => ?_, hi.pn⟩
        obtain ⟨x, hx, ex⟩ := List.mem_map.1 hm
        obtain ⟨y, hy, ey⟩ := hmem x hx
        exact hkp y hy (ey.trans ex)⟩ (fun x hx2 => hx x (List.mem_cons_of_mem _ hx2))
    have e2 : fl ((n, k :: r) :: p) = k :: fl ((n, r) :: p) := rfl
    refine ⟨g', a1, a2, a3, fun x hx => ?_, ?_⟩
    · rcases List.mem_cons.1 hx with rfl | hx
      · exact a4 (n, r) (List.mem_cons_of_mem _ (List.mem_cons_self ..))
      · exact a4 x (List.mem_cons_of_mem _ (List.mem_cons_of_mem _ hx))
    · rw [e2, (rcE_new k0 (by rw [sn_length, ho.l]; exact k1) (fun j hj => fl_range ho.seen j hj) (by rw [sn_length, ho.l]; exact hG) (by rw [sn_at]; simpa using hs)).1]
      rw [sn_set (by omega)] at a5
      intro u hu
      rcases List.mem_cons.1 hu with rfl | hu
      · exact a4 (u, kdN G u) (List.mem_cons_self ..)
      · exact a5 u hu

/-- What comings tells of a root. -/
def cmT (G : List Gn) (root : Int) : List (Int × Nat) := (root, 0) :: cmE G ((List.replicate G.length 0).set root.toNat 1) [(root, kdN G root)]
section
variable {G : List Gn} {root : Int}
theorem sd_none (n : Nat) (k : Int) : sdAt (List.replicate n 0) k = 0 := by
  unfold sdAt
  rw [List.getElem?_replicate]
  split <;> rfl
theorem okp_start (hG : ∀ x ∈ G, ∀ k ∈ x.kids, 0 ≤ k ∧ k.toNat < G.length) (hr : 0 ≤ root ∧ root.toNat < G.length) : Okp G ((List.replicate G.length 0).set root.toNat 1) [(root, kdN G root)] := by
  refine ⟨by simp, fun x hx => ?_, fun x hx => ?_⟩
  · rw [List.mem_singleton.1 hx]
    exact kdN_range hG root
  · rw [List.mem_singleton.1 hx]
    refine ⟨hr.1, hr.2, ?_⟩
    dsimp only
    rw [sdAt_set hr.1 (by simpa using hr.2) hr.1, if_pos rfl]
    omega
theorem sn_start (n : Nat) : sn (List.replicate n 0) = List.replicate n false := by
  unfold sn
  rw [List.map_replicate]
  rfl
theorem rc_start (hG : ∀ x ∈ G, ∀ k ∈ x.kids, 0 ≤ k ∧ k.toNat < G.length) (hr : 0 ≤ root ∧ root.toNat < G.length) :
    rcE G (List.replicate G.length false) [root] = root :: rcE G (sn ((List.replicate G.length 0).set root.toNat 1)) (fl [(root, kdN G root)]) := by
  have hln : (List.replicate G.length false).length = G.length := by simp
  have h := (rcE_new (G := G) (S := List.replicate G.length false) (k := root) (T := []) hr.1 (by rw [hln]; exact hr.2) (fun j hj => by cases hj) (by rw [hln]; exact hG) (by
    unfold snAt
    rw [List.getElem?_replicate]
    split <;> rfl)).1
  rw [h, sn_set (by omega), sn_start]
  rfl
theorem cmT_reach (hG : ∀ x ∈ G, ∀ k ∈ x.kids, 0 ≤ k ∧ k.toNat < G.length) (hr : 0 ≤ root ∧ root.toNat < G.length) :
    ((cmT G root).filter fun x => decide (x.2 = 0)).map (·.1) = rcE G (List.replicate G.length false) [root] := by
  unfold cmT
  rw [List.filter_cons_of_pos (by simp), List.map_cons, cm_reach hG _ _ (okp_start hG hr), rc_start hG hr]
theorem cmT_count (hG : ∀ x ∈ G, ∀ k ∈ x.kids, 0 ≤ k ∧ k.toNat < G.length) (hr : 0 ≤ root ∧ root.toNat < G.length) (j : Int) :
    ((cmT G root).map (·.1)).count j = (if root = j then 1 else 0) + ((rcE G (List.replicate G.length false) [root]).map fun u => (kdN G u).count j).sum := by
  unfold cmT
  rw [List.map_cons, List.count_cons, cm_count hG j _ _ (okp_start hG hr), rc_start hG hr, List.map_cons, List.sum_cons]
  have : fl [(root, kdN G root)] = kdN G root := by unfold fl; simp
  rw [this]
  simp only [beq_iff_eq]
  omega
theorem cmT_ring (hG : ∀ x ∈ G, ∀ k ∈ x.kids, 0 ≤ k ∧ k.toNat < G.length) (hr : 0 ≤ root ∧ root.toNat < G.length) :
    (∃ x ∈ cmT G root, x.2 = 1) ↔ ∃ k ∈ rcE G (List.replicate G.length false) [root], Pth (kdN G) k k := by
  have hset : ∀ j, 0 ≤ j → sdAt ((List.replicate G.length 0).set root.toNat 1) j = if root = j then 1 else 0 := fun j hj => by
    rw [sdAt_set hr.1 (by simpa using hr.2) hj, sd_none]
  have hm := (reach_met G root hr hG).2
  constructor
  · rintro ⟨x, hx, h1⟩
    unfold cmT at hx
    rcases List.mem_cons.1 hx with rfl | hx
    · cases h1
    · obtain ⟨k, hk, hp⟩ := cm_ring hG root _ _ (okp_start hG hr) ⟨trivial, fun x hx => by rw [List.mem_singleton.1 hx]; exact fun j hj => hj, fun k hk0 hk => by
        rw [hset k hk0] at hk
        refine ⟨_, List.mem_singleton_self _, ?_⟩
        by_cases e : root = k
        · exact e
        · rw [if_neg e] at hk; exact absurd hk (by omega), fun x hx => by rw [List.mem_singleton.1 hx]; exact .inl rfl⟩ ⟨x, hx, h1⟩
      exact ⟨k, (hm k).2 hk, hp⟩
  · rintro ⟨k, hk, hp⟩
    apply Classical.byContradiction
    intro hn
    have hno : ∀ x ∈ cmE G ((List.replicate G.length 0).set root.toNat 1) [(root, kdN G root)], x.2 ≠ 1 := fun x hx h1 => hn ⟨x, List.mem_cons_of_mem _ hx, h1⟩
    obtain ⟨g', a1, a2, -, a4, a5⟩ := cm_tree hG _ _ (okp_start hG hr) [] ⟨Ord.nil _, List.nodup_nil, fun j hj => (by cases hj), fun j hj0 hj => by
        rw [hset j hj0] at hj
        split at hj <;> exact absurd hj (by omega), fun j hj0 => by
        rw [hset j hj0]
        split <;> omega, ⟨⟨[], rfl, fun j hj => (by cases hj)⟩, trivial⟩, fun x hx => by
        rw [List.mem_singleton.1 hx]
        dsimp only
        rw [hset root hr.1, if_pos rfl], by simp⟩ hno
    rw [rc_start hG hr] at hk
    refine a1.no_ring a2 k ?_ hp
    rcases List.mem_cons.1 hk with rfl | hk
    · exact a4 _ (List.mem_singleton_self _)
    · exact a5 k hk
/-- Of each node that is told how often, counted one by one. -/
theorem incrs_at (l : List Int) (hl : ∀ k ∈ l, 0 ≤ k) : ∀ (U : List Int), (∀ k ∈ l, k.toNat < U.length) → ∀ j : Nat, iAt (incrs U l) j = iAt U j + (l.count (j : Int) : Nat) := by
  induction l with
  | nil => intro U _ j; simp [incrs]
  | cons k l ih =>
    intro U hU j
    have hk0 := hl k (List.mem_cons_self ..)
    have hk1 := hU k (List.mem_cons_self ..)
    have e : incrs U (k :: l) = incrs (incr U k) l := rfl
    rw [e, ih (fun x hx => hl x (List.mem_cons_of_mem _ hx)) _ (fun x hx => by rw [incr_len]; exact hU x (List.mem_cons_of_mem _ hx)) j]
    unfold incr
    rw [iAt_set hk1, List.count_cons]
    by_cases e2 : k.toNat = j
    · subst e2
      rw [if_pos rfl, if_pos (by simp; omega)]
      omega
    · rw [if_neg e2, if_neg (by simp; omega)]
      omega
theorem usesF_at (hG : ∀ x ∈ G, ∀ k ∈ x.kids, 0 ≤ k ∧ k.toNat < G.length) : ∀ (L : List Int) (U : List Int), U.length = G.length → ∀ j : Nat, iAt (usesF G U L) j = iAt U j + ((L.map fun u => (kdN G u).count (j : Int)).sum : Nat)
  | [], U, _, j => by simp [usesF]
  | u :: L, U, hU, j => by
    have e : usesF G U (u :: L) = usesF G (incrs U (kdN G u)) L := rfl
    rw [e, usesF_at hG L _ (by rw [incrs_len]; exact hU) j, incrs_at _ (fun k hk => (kdN_range hG u k hk).1) U (fun k hk => by rw [hU]; exact (kdN_range hG u k hk).2) j, List.map_cons, List.sum_cons]
    omega
theorem usesF_len (G : List Gn) : ∀ (L : List Int) (U : List Int), (usesF G U L).length = U.length
  | [], U => rfl
  | u :: L, U => by
    have e : usesF G U (u :: L) = usesF G (incrs U (kdN G u)) L := rfl
    rw [e, usesF_len G L, incrs_len]
theorem cmE_range (hG : ∀ x ∈ G, ∀ k ∈ x.kids, 0 ≤ k ∧ k.toNat < G.length) (S : List Nat) (p : List (Int × List Int)) (ho : Okp G S p) : ∀ x ∈ cmE G S p, 0 ≤ x.1 ∧ x.1.toNat < G.length := by
  refine cm_ind hG (fun S p => ∀ x ∈ cmE G S p, 0 ≤ x.1 ∧ x.1.toNat < G.length) (fun S x hx => ?_) (fun S n p ho ih => ?_) (fun S n k r p ho hs ih x hx => ?_) (fun S n k r p ho hs ih x hx => ?_) _ S p (Nat.le_refl _) ho
  · rw [cmE_nil] at hx; cases hx
  · rw [cmE_close (ho.n _ (List.mem_cons_self ..)).2.2]; exact ih
  · rw [cmE_seen hs] at hx
    rcases List.mem_cons.1 hx with rfl | hx
    · exact ho.kid
    · exact ih x hx
  · rw [cmE_new (by rw [ho.l]; exact ho.kid.2) hs] at hx
    rcases List.mem_cons.1 hx with rfl | hx
    · exact ho.kid
    · exact ih x hx
theorem cmT_range (hG : ∀ x ∈ G, ∀ k ∈ x.kids, 0 ≤ k ∧ k.toNat < G.length) (hr : 0 ≤ root ∧ root.toNat < G.length) : ∀ x ∈ cmT G root, 0 ≤ x.1 ∧ x.1.toNat < G.length := by
  intro x hx
  unfold cmT at hx
  rcases List.mem_cons.1 hx with rfl | hx
  · exact hr
  · exact cmE_range hG _ _ (okp_start hG hr) x hx
theorem cmT_uses (hG : ∀ x ∈ G, ∀ k ∈ x.kids, 0 ≤ k ∧ k.toNat < G.length) (hr : 0 ≤ root ∧ root.toNat < G.length) :
    incrs (List.replicate G.length 0) ((cmT G root).map (·.1)) = usesF G (incr (List.replicate G.length 0) root) (rcE G (List.replicate G.length false) [root]) := by
  have hz : ∀ j, iAt (List.replicate G.length 0) j = 0 := fun j => by
    unfold iAt
    rw [List.getElem?_replicate]
    split <;> rfl
  apply List.ext_getElem?
  intro j
  have hl1 : (incrs (List.replicate G.length 0) ((cmT G root).map (·.1))).length = G.length := by rw [incrs_len]; simp
  have hl2 : (usesF G (incr (List.replicate G.length 0) root) (rcE G (List.replicate G.length false) [root])).length = G.length := by rw [usesF_len, incr_len]; simp
  by_cases hj : j < G.length
  · have h1 := incrs_at ((cmT G root).map (·.1)) (fun k hk => by
      obtain ⟨x, hx, rfl⟩ := List.mem_map.1 hk
      exact (cmT_range hG hr x hx).1) (List.replicate G.length 0) (fun k hk => by
      obtain ⟨x, hx, rfl⟩ := List.mem_map.1 hk
      simpa using (cmT_range hG hr x hx).2) j
    have h2 := usesF_at hG (rcE G (List.replicate G.length false) [root]) (incr (List.replicate G.length 0) root) (by rw [incr_len]; simp) j
    rw [hz, cmT_count hG hr] at h1
    have h4 : iAt (incr (List.replicate G.length 0) root) j = if root.toNat = j then 1 else 0 := by
      unfold incr
      rw [iAt_set (by simpa using hr.2), hz, hz]
      rfl
    rw [h4] at h2
    have h3 : iAt (incrs (List.replicate G.length 0) ((cmT G root).map (·.1))) j = iAt (usesF G (incr (List.replicate G.length 0) root) (rcE G (List.replicate G.length false) [root])) j := by
      rw [h1, h2]
      by_cases e : root = (j : Int)
      · rw [if_pos e, if_pos (by omega)]
        omega
      · rw [if_neg e, if_neg (by omega)]
        omega
    unfold iAt at h3
    rw [List.getElem?_eq_getElem (by omega), List.getElem?_eq_getElem (by omega)] at h3 ⊢
    exact congrArg some h3
  · rw [List.getElem?_eq_none (by omega), List.getElem?_eq_none (by omega)]
end
end Go.Proofs.YtjfeamfchgcblaaDoor
