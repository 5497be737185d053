/- Rings, and how the document finds them: nodes without Kids that are left are taken away. In plain terms. -/
import Derived.Test.YtjfeamfchgcblaaDoorGcm
set_option linter.all false
set_option maxRecDepth 100000
namespace Go.Proofs.YtjfeamfchgcblaaDoor
open Go.RowKit

/-- One or more steps from a node to a Kid. -/
def Pth (kd : Int → List Int) : Int → Int → Prop := Relation.TransGen (fun a b => b ∈ kd a)
theorem Pth.one {kd : Int → List Int} {a b : Int} (h : b ∈ kd a) : Pth kd a b := .single h
theorem Pth.trans {kd : Int → List Int} {a b c : Int} (h : Pth kd a b) (h2 : Pth kd b c) : Pth kd a c := Relation.TransGen.trans h h2
theorem last_of {R : Int → Int → Prop} (tr : ∀ a b c, R a b → R b c → R a c) : ∀ S : List Int, S ≠ [] → (∀ k ∈ S, ¬ R k k) → ∃ m ∈ S, ∀ x ∈ S, ¬ R m x
  | [], h, _ => absurd rfl h
  | [a], _, h => ⟨a, List.mem_cons_self .., fun x hx => by
      rcases List.mem_cons.1 hx with rfl | hx
      · exact h _ (List.mem_cons_self ..)
      · cases hx⟩
  | a :: b :: S, _, h => by
    obtain ⟨m, hm, hx⟩ := last_of tr (b :: S) (by simp) (fun k hk => h k (List.mem_cons_of_mem _ hk))
    by_cases e : R m a
    · refine ⟨a, List.mem_cons_self .., fun x hxx hr => ?_⟩
      rcases List.mem_cons.1 hxx with rfl | h2
      · exact h _ (List.mem_cons_self ..) hr
      · exact hx x h2 (tr _ _ _ e hr)
    · refine ⟨m, List.mem_cons_of_mem _ hm, fun x hxx hr => ?_⟩
      rcases List.mem_cons.1 hxx with rfl | h2
      · exact e hr
      · exact hx x h2 hr
/-- Where each has a Kid among them, there is a ring among them. -/
theorem ring_of {kd : Int → List Int} (S : List Int) (hS : S ≠ []) (h : ∀ u ∈ S, ∃ j ∈ kd u, j ∈ S) : ∃ k ∈ S, Pth kd k k := by
  apply Classical.byContradiction
  intro hn
  obtain ⟨m, hm, hx⟩ := last_of (R := Pth kd) (fun a b c h1 h2 => h1.trans h2) S hS (fun k hk hr => hn ⟨k, hk, hr⟩)
  obtain ⟨j, hj, hjS⟩ := h m hm
  exact hx j hjS (.one hj)
/-- Each one's Kids stand ahead of it. -/
def Ord (kd : Int → List Int) (g : List Int) : Prop := ∀ A u B, g = A ++ u :: B → ∀ j ∈ kd u, j ∈ A
theorem Ord.nil (kd : Int → List Int) : Ord kd [] := fun A u B h => by cases A <;> cases h
theorem Ord.snoc {kd : Int → List Int} {g : List Int} (h : Ord kd g) {k : Int} (hk : ∀ j ∈ kd k, j ∈ g) : Ord kd (g ++ [k]) := by
  intro A u B e j hj
  rcases List.eq_nil_or_concat B with rfl | ⟨B', x, rfl⟩
  · have := List.append_inj' e rfl
    obtain ⟨rfl, e2⟩ := this
    cases e2
    exact hk j hj
  · have e' : g ++ [k] = (A ++ u :: B') ++ [x] := by rw [e]; simp
    have := List.append_inj' e' rfl
    exact h A u B' this.1 j hj
theorem Ord.no_ring {kd : Int → List Int} {g : List Int} (h : Ord kd g) (hn : g.Nodup) : ∀ k ∈ g, ¬ Pth kd k k := by
  have st : ∀ a b, a ∈ g → b ∈ kd a → b ∈ g ∧ g.idxOf b < g.idxOf a := by
    intro a b ha hb
    obtain ⟨A, B, rfl, hA⟩ := List.append_of_mem ha |> fun ⟨A, B, e⟩ => (⟨A, B, e, by
      subst e
      intro hx
      have := List.nodup_append.1 hn
      exact this.2.2 a hx a (List.mem_cons_self ..) rfl⟩ : ∃ A B, g = A ++ a :: B ∧ a ∉ A)
    have hbA := h A a B rfl b hb
    refine ⟨List.mem_append_left _ hbA, ?_⟩
    rw [List.idxOf_append, List.idxOf_append, if_pos hbA, if_neg hA]
    have := List.idxOf_lt_length_of_mem hbA
    omega
  have pth : ∀ a b, Pth kd a b → a ∈ g → b ∈ g ∧ g.idxOf b < g.idxOf a := by
    intro a b hp ha
    induction hp with
    | single hs => exact st _ _ ha hs
    | tail _ hs ih =>
      have := st _ _ ih.1 hs
      exact ⟨this.1, by omega⟩
  intro k hk hp
  have := (pth k k hp hk).2
  omega
/-- How many Kids of a node are not gone yet. -/
def lv (kd : Int → List Int) (gone : List Int) (u : Int) : Nat := ((kd u).filter fun j => decide (j ∉ gone)).length
theorem lv_nil (kd : Int → List Int) (u : Int) : lv kd [] u = (kd u).length := by
  unfold lv
  rw [List.filter_eq_self.2 (fun a _ => by simp)]
theorem lv_snoc_aux (gone : List Int) (k : Int) (hk : k ∉ gone) : ∀ t : List Int, (t.filter fun j => decide (j ∉ gone)).length = (t.filter fun j => decide (j ∉ gone ++ [k])).length + t.count k
  | [] => rfl
  | a :: t => by
    have ih := lv_snoc_aux gone k hk t
    by_cases e : a = k
    · subst e
      rw [List.filter_cons_of_pos (by simpa using hk), List.filter_cons_of_neg (by simp), List.count_cons_self, List.length_cons, ih]
      omega
    · rw [List.count_cons_of_ne e]
      by_cases h : a ∈ gone
      · rw [List.filter_cons_of_neg (by simpa using h), List.filter_cons_of_neg (by simp [h]), ih]
      · rw [List.filter_cons_of_pos (by simpa using h), List.filter_cons_of_pos (by simp [h, e]), List.length_cons, List.length_cons, ih]
        omega
theorem lv_snoc {kd : Int → List Int} {gone : List Int} {k : Int} (hk : k ∉ gone) (u : Int) : lv kd gone u = lv kd (gone ++ [k]) u + (kd u).count k := lv_snoc_aux gone k hk (kd u)
theorem lv_zero {kd : Int → List Int} {gone : List Int} {u : Int} (h : lv kd gone u = 0) : ∀ j ∈ kd u, j ∈ gone := by
  intro j hj
  apply Classical.byContradiction
  intro hn
  have := List.eq_nil_of_length_eq_zero h
  have h2 : j ∈ (kd u).filter fun j => decide (j ∉ gone) := List.mem_filter.2 ⟨hj, by simpa using hn⟩
  rw [this] at h2
  cases h2
theorem lv_pos {kd : Int → List Int} {gone : List Int} {u : Int} (h : lv kd gone u ≠ 0) : ∃ j ∈ kd u, j ∉ gone := by
  have : (kd u).filter (fun j => decide (j ∉ gone)) ≠ [] := fun e => h (by unfold lv; rw [e]; rfl)
  obtain ⟨j, hj⟩ := List.exists_mem_of_ne_nil _ this
  have := List.mem_filter.1 hj
  exact ⟨j, this.1, by simpa using this.2⟩
theorem iAt_set {L : List Int} {u : Nat} (h : u < L.length) (v : Int) (j : Nat) : iAt (L.set u v) j = if u = j then v else iAt L j := by
  unfold iAt
  rw [List.getElem?_set]
  by_cases e : u = j
  · subst e; simp [h]
  · rw [if_neg e, if_neg e]
/-- The nodes that are looked at: they stand in the graph, once each, and their Kids are among them. -/
structure KN (kd : Int → List Int) (l : List Int) (n : Nat) : Prop where
  r : ∀ u ∈ l, 0 ≤ u ∧ u.toNat < n
  nd : l.Nodup
  cl : ∀ u ∈ l, ∀ j ∈ kd u, j ∈ l
/-- Who uses whom. -/
structure KU (kd : Int → List Int) (l : List Int) (P : List (List Int)) : Prop where
  m : ∀ k ∈ l, ∀ u ∈ pAt P k.toNat, u ∈ l
  c : ∀ k ∈ l, ∀ u ∈ l, (pAt P k.toNat).count u = (kd u).count k
structure KI (kd : Int → List Int) (l : List Int) (n : Nat) (gone fr L : List Int) : Prop where
  ll : L.length = n
  lf : ∀ u ∈ l, iAt L u.toNat = (lv kd gone u : Int)
  nd : (gone ++ fr).Nodup
  ss : ∀ u ∈ gone ++ fr, u ∈ l
  z : ∀ u ∈ l, (u ∈ gone ++ fr ↔ iAt L u.toNat = 0)
  o : Ord kd gone
/-- Within the users of one node: so many of them are told. -/
structure KD (kd : Int → List Int) (l : List Int) (n : Nat) (gone : List Int) (k : Int) (pre fr L : List Int) : Prop where
  ll : L.length = n
  lf : ∀ u ∈ l, iAt L u.toNat = (lv kd gone u : Int) - (pre.count u : Nat)
  nd : ((gone ++ [k]) ++ fr).Nodup
  ss : ∀ u ∈ (gone ++ [k]) ++ fr, u ∈ l
  z : ∀ u ∈ l, (u ∈ (gone ++ [k]) ++ fr ↔ iAt L u.toNat = 0)
  o : Ord kd (gone ++ [k])
section
variable {kd : Int → List Int} {l : List Int} {n : Nat} {gone fr L : List Int} {k : Int} {P : List (List Int)} {pre : List Int}
theorem KI.take (h : KI kd l n gone (fr ++ [k]) L) : KD kd l n gone k [] fr L := by
  have hp : (gone ++ (fr ++ [k])).Perm ((gone ++ [k]) ++ fr) := by
    rw [List.append_assoc]
    exact List.Perm.append_left gone (List.perm_append_comm)
  have hk : k ∈ l := h.ss k (by simp)
  have h0 : iAt L k.toNat = 0 := (h.z k hk).1 (by simp)
  have hz : lv kd gone k = 0 := by have := h.lf k hk; omega
  exact ⟨h.ll, fun u hu => by rw [h.lf u hu]; simp, hp.nodup_iff.1 h.nd, fun u hu => h.ss u (hp.mem_iff.2 hu), fun u hu => hp.mem_iff.symm.trans (h.z u hu), h.o.snoc (lv_zero hz)⟩
theorem KD.knew (h : KD kd l n gone k pre fr L) : k ∉ gone := by
  have := (List.nodup_append.1 (List.nodup_append.1 h.nd).1).2.2
  intro hk
  exact this k hk k (by simp) rfl
theorem KD.kl (h : KD kd l n gone k pre fr L) : k ∈ l := h.ss k (by simp)
theorem KD.step (hN : KN kd l n) (hU : KU kd l P) (h : KD kd l n gone k pre fr L) {u : Int} {post : List Int} (e : pAt P k.toNat = pre ++ u :: post) :
    u ∈ l ∧ 0 < iAt L u.toNat ∧ KD kd l n gone k (pre ++ [u]) (if iAt L u.toNat - 1 = 0 then fr ++ [u] else fr) (L.set u.toNat (iAt L u.toNat - 1)) := by
  have hu : u ∈ l := hU.m k h.kl u (by rw [e]; simp)
  have hc : pre.count u + 1 ≤ (kd u).count k := by
    rw [← hU.c k h.kl u hu, e, List.count_append, List.count_cons_self]
    omega
  have h1 := lv_snoc (kd := kd) h.knew u
  have h2 := h.lf u hu
  have hp : 0 < iAt L u.toNat := by omega
  have hur := hN.r u hu
  have huL : u.toNat < L.length := by rw [h.ll]; exact hur.2
  have hnot : u ∉ (gone ++ [k]) ++ fr := fun hm => by have := (h.z u hu).1 hm; omega
  have hset : ∀ x ∈ l, iAt (L.set u.toNat (iAt L u.toNat - 1)) x.toNat = if u = x then iAt L u.toNat - 1 else iAt L x.toNat := by
    intro x hx
    rw [iAt_set huL]
    by_cases ex : u = x
    · rw [if_pos (by rw [ex]), if_pos ex]
    · rw [if_neg (fun e => ex (by have := (hN.r x hx).1; omega)), if_neg ex]
  refine ⟨hu, hp, by rw [List.length_set]; exact h.ll, fun x hx => ?_, ?_, ?_, fun x hx => ?_, h.o⟩
  · rw [hset x hx]
    by_cases ex : u = x
    · subst ex
      rw [if_pos rfl, h2, List.count_append, List.count_cons_self]
      simp
      omega
    · rw [if_neg ex, h.lf x hx, List.count_append, List.count_cons_of_ne ex]
      simp
  · by_cases e0 : iAt L u.toNat - 1 = 0
    · rw [if_pos e0, ← List.append_assoc]
      refine List.nodup_append.2 ⟨h.nd, by simp, fun a ha b hb => ?_⟩
      rintro rfl
      rcases List.mem_singleton.1 hb with rfl
      exact hnot ha
    · rw [if_neg e0]; exact h.nd
  · intro x hx
    by_cases e0 : iAt L u.toNat - 1 = 0
    · rw [if_pos e0, ← List.append_assoc] at hx
      rcases List.mem_append.1 hx with hx | hx
      · exact h.ss x hx
      · rw [List.mem_singleton.1 hx]; exact hu
    · rw [if_neg e0] at hx; exact h.ss x hx
  · rw [hset x hx]
    by_cases ex : u = x
    · subst ex
      rw [if_pos rfl]
      by_cases e0 : iAt L u.toNat - 1 = 0
      · rw [if_pos e0]
        exact ⟨fun _ => e0, fun _ => by simp⟩
      · rw [if_neg e0]
        exact ⟨fun hm => absurd hm hnot, fun hm => absurd hm e0⟩
    · rw [if_neg ex]
      by_cases e0 : iAt L u.toNat - 1 = 0
      · rw [if_pos e0, ← List.append_assoc, List.mem_append, List.mem_singleton, ← h.z x hx]
        exact ⟨fun hm => hm.resolve_right (fun e => ex e.symm), .inl⟩
      · rw [if_neg e0]; exact h.z x hx
theorem KD.done (hU : KU kd l P) (h : KD kd l n gone k (pAt P k.toNat) fr L) : KI kd l n (gone ++ [k]) fr L :=
  ⟨h.ll, fun u hu => by
    have h1 := lv_snoc (kd := kd) h.knew u
    rw [h.lf u hu, hU.c k h.kl u hu]
    omega, h.nd, h.ss, h.z, h.o⟩
theorem nodup_le : ∀ (A B : List Int), A.Nodup → (∀ x ∈ A, x ∈ B) → A.length ≤ B.length
  | [], B, _, _ => Nat.zero_le _
  | a :: A, B, hn, h => by
    have hn' := List.nodup_cons.1 hn
    have ha : a ∈ B := h a (List.mem_cons_self ..)
    have := nodup_le A (B.erase a) hn'.2 (fun x hx => (List.mem_erase_of_ne (fun e : x = a => hn'.1 (by rw [← e]; exact hx))).2 (h x (List.mem_cons_of_mem _ hx)))
    rw [List.length_erase_of_mem ha] at this
    have := List.length_pos_of_mem ha
    rw [List.length_cons]
    omega
theorem KI.len (h : KI kd l n gone fr L) : gone.length + fr.length ≤ l.length := by
  have := nodup_le (gone ++ fr) l h.nd h.ss
  rw [List.length_append] at this
  exact this
/-- At the end some are left if and only if there is a ring. -/
theorem KI.ring (hN : KN kd l n) (h : KI kd l n gone [] L) : gone.length < l.length ↔ ∃ k ∈ l, Pth kd k k := by
  have hnd : gone.Nodup := by have := h.nd; rwa [List.append_nil] at this
  have hz : ∀ u ∈ l, (u ∈ gone ↔ iAt L u.toNat = 0) := by have := h.z; simpa using this
  constructor
  · intro hl
    obtain ⟨S, hS⟩ : ∃ S, l.filter (fun j => decide (j ∉ gone)) = S := ⟨_, rfl⟩
    have hne : S ≠ [] := by
      intro e
      have := nodup_le l gone hN.nd (fun x hx => by
        apply Classical.byContradiction
        intro hn
        have : x ∈ S := by rw [← hS]; exact List.mem_filter.2 ⟨hx, by simpa using hn⟩
        rw [e] at this
        cases this)
      omega
    have hm : ∀ u, u ∈ S ↔ u ∈ l ∧ u ∉ gone := fun u => by rw [← hS, List.mem_filter]; simp
    obtain ⟨k, hk, hp⟩ := ring_of S hne (fun u hu => by
      obtain ⟨h1, h2⟩ := (hm u).1 hu
      obtain ⟨j, hj, hj2⟩ := lv_pos (kd := kd) (gone := gone) (u := u) (fun e => h2 ((hz u h1).2 (by rw [h.lf u h1, e]; rfl)))
      exact ⟨j, hj, (hm j).2 ⟨hN.cl u h1 j hj, hj2⟩⟩)
    exact ⟨k, ((hm k).1 hk).1, hp⟩
  · rintro ⟨k, hk, hp⟩
    apply Classical.byContradiction
    intro hn
    have hkg : k ∈ gone := by
      apply Classical.byContradiction
      intro hkn
      have hss : ∀ x ∈ k :: gone, x ∈ l := fun x hx => by
        rcases List.mem_cons.1 hx with rfl | hx
        · exact hk
        · exact h.ss x (List.mem_append_left _ hx)
      have := nodup_le (k :: gone) l (List.nodup_cons.2 ⟨hkn, hnd⟩) hss
      rw [List.length_cons] at this
      omega
    exact h.o.no_ring hnd k hkg hp
end
/-- The first loop: so many of the nodes are told. -/
structure KS (kd : Int → List Int) (l : List Int) (n : Nat) (pre fr L : List Int) (P : List (List Int)) : Prop where
  ll : L.length = n
  pl : P.length = n
  lf : ∀ u ∈ pre, iAt L u.toNat = ((kd u).length : Int)
  m : ∀ k ∈ l, ∀ u ∈ pAt P k.toNat, u ∈ pre
  c : ∀ k ∈ l, ∀ u ∈ pre, (pAt P k.toNat).count u = (kd u).count k
  f : fr = pre.filter fun u => (kd u).isEmpty
theorem pAt_none (n k : Nat) : pAt (List.replicate n []) k = [] := by
  unfold pAt
  rw [List.getElem?_replicate]
  split <;> rfl
/-- Within one node's Kids. -/
structure KT (kd : Int → List Int) (l : List Int) (n : Nat) (pre : List Int) (x : Int) (ks : List Int) (P : List (List Int)) : Prop where
  pl : P.length = n
  m : ∀ k ∈ l, ∀ u ∈ pAt P k.toNat, u ∈ pre ∨ u = x
  c : ∀ k ∈ l, ∀ u ∈ pre, (pAt P k.toNat).count u = (kd u).count k
  d : ∀ k ∈ l, (pAt P k.toNat).count x = ks.count k
section
variable {kd : Int → List Int} {l : List Int} {n : Nat} {fr L : List Int} {P : List (List Int)} {pre : List Int} {x : Int} {ks : List Int}
theorem KS.start (kd : Int → List Int) (l : List Int) (n : Nat) : KS kd l n [] [] (List.replicate n 0) (List.replicate n []) :=
  ⟨by simp, by simp, fun u hu => (by cases hu), fun k hk u hu => (by rw [pAt_none] at hu; cases hu), fun k hk u hu => (by cases hu), rfl⟩
theorem KS.open (h : KS kd l n pre fr L P) (hx : x ∉ pre) : KT kd l n pre x [] P :=
  ⟨h.pl, fun k hk u hu => .inl (h.m k hk u hu), h.c, fun k hk => by
    rw [List.count_nil]
    exact List.count_eq_zero.2 (fun hm => hx (h.m k hk x hm))⟩
theorem KT.step (hN : KN kd l n) (h : KT kd l n pre x ks P) (hx : x ∉ pre) {j : Int} (hj : j ∈ l) : KT kd l n pre x (ks ++ [j]) (P.set j.toNat (pAt P j.toNat ++ [x])) := by
  have hjr := hN.r j hj
  have hjP : j.toNat < P.length := by rw [h.pl]; exact hjr.2
  have hset : ∀ k ∈ l, pAt (P.set j.toNat (pAt P j.toNat ++ [x])) k.toNat = if j = k then pAt P j.toNat ++ [x] else pAt P k.toNat := by
    intro k hk
    rw [pAt_set hjP]
    by_cases e : j = k
    · rw [if_pos (by rw [e]), if_pos e]
    · rw [if_neg (fun e2 => e (by have := (hN.r k hk).1; omega)), if_neg e]
  refine ⟨by rw [List.length_set]; exact h.pl, fun k hk u hu => ?_, fun k hk u hu => ?_, fun k hk => ?_⟩
  · rw [hset k hk] at hu
    split at hu
    · rcases List.mem_append.1 hu with hu | hu
      · exact h.m j hj u hu
      · exact .inr (List.mem_singleton.1 hu)
    · exact h.m k hk u hu
  · rw [hset k hk]
    split
    · next e =>
      subst e
      have hne : x ≠ u := fun e => hx (by rw [e]; exact hu)
      rw [List.count_append, h.c j hj u hu, List.count_cons_of_ne hne]
      simp
    · exact h.c k hk u hu
  · rw [hset k hk, List.count_append]
    split
    · next e =>
      subst e
      rw [List.count_append, h.d j hj, List.count_cons_self, List.count_cons_self]
      rfl
    · next e => rw [h.d k hk, List.count_cons_of_ne e]; simp
theorem KT.done (hN : KN kd l n) (h : KS kd l n pre fr L P) {P' : List (List Int)} (ht : KT kd l n pre x (kd x) P') (hxl : x ∈ l) (hx : x ∉ pre) (hp : ∀ u ∈ pre, u ∈ l) :
    KS kd l n (pre ++ [x]) (if (kd x).isEmpty = true then fr ++ [x] else fr) (L.set x.toNat ((kd x).length : Int)) P' := by
  have hxr := hN.r x hxl
  have hxL : x.toNat < L.length := by rw [h.ll]; exact hxr.2
  refine ⟨by rw [List.length_set]; exact h.ll, ht.pl, fun u hu => ?_, fun k hk u hu => ?_, fun k hk u hu => ?_, ?_⟩
  · rw [iAt_set hxL]
    by_cases e : x = u
    · rw [if_pos (by rw [e]), e]
    · rcases List.mem_append.1 hu with hu | hu
      · rw [if_neg (fun e2 => e (by have := (hN.r u (hp u hu)).1; omega)), h.lf u hu]
      · exact absurd (List.mem_singleton.1 hu).symm e
  · rcases ht.m k hk u hu with h1 | h1
    · exact List.mem_append_left _ h1
    · exact List.mem_append_right _ (by rw [h1]; simp)
  · rcases List.mem_append.1 hu with hu | hu
    · exact ht.c k hk u hu
    · rw [List.mem_singleton.1 hu]; exact ht.d k hk
  · rw [List.filter_append, h.f]
    by_cases e : (kd x).isEmpty = true
    · rw [if_pos e]; simp [e]
    · rw [if_neg e]; simp [e]
theorem KS.done (hN : KN kd l n) (h : KS kd l n l fr L P) : KU kd l P ∧ KI kd l n [] fr L := by
  refine ⟨⟨h.m, h.c⟩, h.ll, fun u hu => by rw [h.lf u hu, lv_nil], ?_, ?_, fun u hu => ?_, Ord.nil kd⟩
  · rw [List.nil_append, h.f]; exact hN.nd.filter _
  · intro u hu
    rw [List.nil_append, h.f] at hu
    exact (List.mem_filter.1 hu).1
  · rw [List.nil_append, h.f, List.mem_filter, h.lf u hu]
    constructor
    · intro h2
      have := List.isEmpty_iff.1 h2.2
      rw [this]; rfl
    · intro h2
      have : (kd u).length = 0 := by omega
      exact ⟨hu, by rw [List.eq_nil_of_length_eq_zero this]; rfl⟩
end

theorem snAt_set {S : List Bool} {k j : Int} (hk0 : 0 ≤ k) (hk : k.toNat < S.length) (hj : 0 ≤ j) : snAt (S.set k.toNat true) j = if k = j then true else snAt S j := by
  unfold snAt
  rw [List.getElem?_set]
  by_cases e : k = j
  · subst e; simp [hk]
  · rw [if_neg (fun e2 => e (by omega)), if_neg e]
/-- What is met: once each, nothing that was seen; all that is on the list and all Kids are seen or met; and each is come to from the list. -/
theorem rcF_met (G : List Gn) : ∀ f S T, (∀ k ∈ T, 0 ≤ k ∧ k.toNat < S.length) → (∀ x ∈ G, ∀ k ∈ x.kids, 0 ≤ k ∧ k.toNat < S.length) → rcM G S T ≤ f →
    (∀ k ∈ rcF G f S T, snAt S k = false ∧ 0 ≤ k ∧ k.toNat < S.length) ∧ (rcF G f S T).Nodup ∧ (∀ k ∈ T, snAt S k = true ∨ k ∈ rcF G f S T) ∧ (∀ u ∈ rcF G f S T, ∀ j ∈ kdN G u, snAt S j = true ∨ j ∈ rcF G f S T) ∧ (∀ u ∈ rcF G f S T, ∃ t ∈ T, t = u ∨ Pth (kdN G) t u) := by
  have kdr : ∀ (n : Nat), (∀ x ∈ G, ∀ k ∈ x.kids, 0 ≤ k ∧ k.toNat < n) → ∀ u, ∀ j ∈ kdN G u, 0 ≤ j ∧ j.toNat < n := by
    intro n hG u j hj
    unfold kdN at hj
    by_cases hu : u.toNat < G.length
    · exact hG _ (gAt_mem hu) j hj
    · unfold gAt at hj
      rw [List.getElem?_eq_none (by omega)] at hj
      cases hj
  intro f
  induction f with
  | zero =>
    intro S T hT hG h1
    have : T = [] := by unfold rcM at h1; exact List.eq_nil_of_length_eq_zero (by omega)
    subst this
    exact ⟨fun k hk => (by cases hk), List.nodup_nil, fun k hk => (by cases hk), fun k hk => (by cases hk), fun k hk => (by cases hk)⟩
  | succ f ih =>
    intro S T hT hG h1
    cases T with
    | nil => exact ⟨fun k hk => (by cases hk), List.nodup_nil, fun k hk => (by cases hk), fun k hk => (by cases hk), fun k hk => (by cases hk)⟩
    | cons k T =>
      have hk := hT k (List.mem_cons_self ..)
      have hT' : ∀ k ∈ T, 0 ≤ k ∧ k.toNat < S.length := fun x hx => hT x (List.mem_cons_of_mem _ hx)
      rw [rcF]
      by_cases hs : snAt S k = true
      · rw [if_pos hs]
        obtain ⟨a, b, c, d, e⟩ := ih S T hT' hG (by unfold rcM at h1 ⊢; rw [List.length_cons] at h1; omega)
        refine ⟨a, b, fun x hx => ?_, d, fun u hu => ?_⟩
        · rcases List.mem_cons.1 hx with rfl | hx
          · exact .inl hs
          · exact c x hx
        · obtain ⟨t, ht, h2⟩ := e u hu
          exact ⟨t, List.mem_cons_of_mem _ ht, h2⟩
      · rw [if_neg hs]
        have hs' : snAt S k = false := by simpa using hs
        have hl := left_see G S k.toNat hk.2 hs'
        have hTn : ∀ j ∈ kdN G k ++ T, 0 ≤ j ∧ j.toNat < (S.set k.toNat true).length := by
          intro j hj
          rw [List.length_set]
          rcases List.mem_append.1 hj with h | h
          · exact kdr _ hG k j h
          · exact hT' j h
        obtain ⟨a, b, c, d, e⟩ := ih (S.set k.toNat true) (kdN G k ++ T) hTn (by rw [List.length_set]; exact hG) (by
          unfold rcM at h1 ⊢
          unfold kdN
          rw [List.length_cons] at h1
          rw [List.length_append]
          omega)
        have tr : ∀ j, 0 ≤ j → snAt (S.set k.toNat true) j = true ∨ j ∈ rcF G f (S.set k.toNat true) (kdN G k ++ T) → snAt S j = true ∨ j ∈ k :: rcF G f (S.set k.toNat true) (kdN G k ++ T) := by
          intro j hj h
          rcases h with h | h
          · rw [snAt_set hk.1 hk.2 hj] at h
            by_cases e : k = j
            · exact .inr (by rw [e]; exact List.mem_cons_self ..)
            · rw [if_neg e] at h; exact .inl h
          · exact .inr (List.mem_cons_of_mem _ h)
        refine ⟨fun x hx => ?_, List.nodup_cons.2 ⟨fun hm => ?_, b⟩, fun x hx => ?_, fun u hu j hj => ?_, fun u hu => ?_⟩
        · rcases List.mem_cons.1 hx with rfl | hx
          · exact ⟨hs', hk⟩
          · obtain ⟨h2, h3, h4⟩ := a x hx
            rw [List.length_set] at h4
            rw [snAt_set hk.1 hk.2 h3] at h2
            by_cases e : k = x
            · rw [if_pos e] at h2; cases h2
            · rw [if_neg e] at h2; exact ⟨h2, h3, h4⟩
        · have := (a k hm).1
          rw [snAt_set hk.1 hk.2 hk.1, if_pos rfl] at this
          cases this
        · rcases List.mem_cons.1 hx with rfl | hx
          · exact .inr (List.mem_cons_self ..)
          · exact tr x (hT' x hx).1 (c x (List.mem_append_right _ hx))
        · have hj0 := (kdr _ hG u j hj).1
          rcases List.mem_cons.1 hu with rfl | hu
          · exact tr j hj0 (c j (List.mem_append_left _ hj))
          · exact tr j hj0 (d u hu j hj)
        · rcases List.mem_cons.1 hu with rfl | hu
          · exact ⟨u, List.mem_cons_self .., .inl rfl⟩
          · obtain ⟨t, ht, h2⟩ := e u hu
            rcases List.mem_append.1 ht with ht | ht
            · refine ⟨k, List.mem_cons_self .., .inr ?_⟩
              rcases h2 with rfl | h2
              · exact .one ht
              · exact Pth.trans (.one ht) h2
            · exact ⟨t, List.mem_cons_of_mem _ ht, h2⟩
/-- What is met from a root. -/
theorem reach_met (G : List Gn) (r : Int) (hr : 0 ≤ r ∧ r.toNat < G.length) (hG : ∀ x ∈ G, ∀ k ∈ x.kids, 0 ≤ k ∧ k.toNat < G.length) :
    KN (kdN G) (rcE G (List.replicate G.length false) [r]) G.length ∧ ∀ u, u ∈ rcE G (List.replicate G.length false) [r] ↔ u = r ∨ Pth (kdN G) r u := by
  have hln : (List.replicate G.length false).length = G.length := by simp
  have hno : ∀ j, snAt (List.replicate G.length false) j = true → False := by
    intro j h
    unfold snAt at h
    rw [List.getElem?_replicate] at h
    split at h <;> cases h
  obtain ⟨a, b, c, d, e⟩ := rcF_met G _ (List.replicate G.length false) [r] (fun k hk => by rw [List.mem_singleton.1 hk, hln]; exact hr) (by rw [hln]; exact hG) (Nat.le_refl _)
  have cl : ∀ u ∈ rcE G (List.replicate G.length false) [r], ∀ j ∈ kdN G u, j ∈ rcE G (List.replicate G.length false) [r] := fun u hu j hj => (d u hu j hj).resolve_left (hno j)
  have hrm : r ∈ rcE G (List.replicate G.length false) [r] := (c r (by simp)).resolve_left (hno r)
  refine ⟨⟨fun u hu => by have := (a u hu).2; rwa [hln] at this, b, cl⟩, fun u => ⟨fun hu => ?_, fun hu => ?_⟩⟩
  · obtain ⟨t, ht, h2⟩ := e u hu
    rw [List.mem_singleton.1 ht] at h2
    exact h2.imp Eq.symm id
  · rcases hu with rfl | hu
    · exact hrm
    · induction hu with
      | single h => exact cl _ hrm _ h
      | tail _ h ih => exact cl _ ih _ h
end Go.Proofs.YtjfeamfchgcblaaDoor
