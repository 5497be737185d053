/- ComposeAnchors, in plain terms: what its events make. -/
import Derived.Test.YteeanpfhngoobaaGreatZXsp
set_option linter.all false
set_option maxRecDepth 100000
namespace Go.Proofs.YteeanpfhngoobaaGreat.Xk
open Go.RowKit

def nmA : ByteArray := ⟨#[97]⟩
def nmB : ByteArray := ⟨#[98]⟩
def nmC : ByteArray := ⟨#[99]⟩
def nm (k : Nat) : ByteArray := match k with | 0 => nmA | 1 => nmB | _ => nmC
def e0 : ByteArray := ⟨#[]⟩
def evS (t : ByteArray) (k : Nat) : Ev := ⟨7, t, e0, nm k, 1, false⟩
def evA (k : Nat) : Ev := ⟨8, e0, e0, nm k, 0, false⟩
def evK (x : Int) : Ev := ⟨x, e0, e0, e0, 0, false⟩
def pre : List Ev := [evK 1, evK 3]
structure AS where
  E : List Ev
  last : List Int
  W : List Int
  n : Nat
  bad : Bool
def stepA (s : AS) (k : Nat) (t : ByteArray) : AS :=
  if k < 3 then ⟨s.E ++ [evS t k], s.last.set k s.n, s.W ++ [(s.n : Int)], s.n + 1, s.bad⟩
  else ⟨s.E ++ [evA (k - 3)], s.last, s.W ++ [s.last.getD (k - 3) 0], s.n, s.bad || s.last.getD (k - 3) 0 == 0⟩
def as0 : AS := ⟨[], [0, 0, 0], [], 1, false⟩
def root (W : List Int) : Nd := ⟨2, e0, e0, W, false⟩
structure INV (s : AS) : Prop where
  l3 : s.last.length = 3
  ev : ∀ e ∈ s.E, (e.k = 7 ∨ e.k = 8) ∧ cleanP e = true
  n1 : 1 ≤ s.n
  nE : s.n ≤ s.E.length + 1
  wl : s.W.length = s.E.length
  good : s.bad = false → ∃ Nt T, goP 9 99 (pre ++ s.E) ps0 = (0, ⟨root s.W :: Nt, [0], [0], T⟩) ∧ Nt.length + 1 = s.n ∧ intsL T ∧ ∀ k, k < 3 → tf (nm k) T = (if s.last.getD k 0 = 0 then none else some (s.last.getD k 0))
  ill : s.bad = true → (goP 9 99 (pre ++ s.E) ps0).1 = 10
theorem nm_ne (k : Nat) : ((nm k).toList == []) = false := by
  have h : ∀ b : ByteArray, b.data.toList ≠ [] → (b.toList == []) = false := fun b hb => by
    rw [beq_eq_false_iff_ne]
    intro h
    rw [empty_iff] at h
    rw [h] at hb
    exact hb rfl
  match k with
  | 0 => exact h nmA (by decide)
  | 1 => exact h nmB (by decide)
  | n + 2 => exact h nmC (by decide)
theorem nm_eq : ∀ j, j < 3 → ∀ k, k < 3 → (nm j == nm k) = decide (j = k) := by decide
theorem e0_nil : (e0.toList == []) = true := beq_iff_eq.2 ((empty_iff _).2 rfl)
theorem pre_go : goP 9 99 pre ps0 = (0, ⟨[root []], [0], [0], []⟩) := by
  have h := take_node (D := 9) (K := 99) (s := ps0) (e := evK 3) (.inr (.inl rfl)) (fun _ => by decide)
  rw [if_neg (by decide), show (evK 3).an = e0 from rfl, e0_nil] at h
  show (if (takeP 9 99 ps0 (evK 1)).1 = 0 then goP 9 99 [evK 3] (takeP 9 99 ps0 (evK 1)).2 else ((takeP 9 99 ps0 (evK 1)).1, ps0)) = _
  rw [show takeP 9 99 ps0 (evK 1) = (0, ps0) from rfl, if_pos rfl]
  show (if (takeP 9 99 ps0 (evK 3)).1 = 0 then (0, (takeP 9 99 ps0 (evK 3)).2) else ((takeP 9 99 ps0 (evK 3)).1, ps0)) = _
  rw [h]
  rfl
theorem start_tf : ∀ k, k < 3 → tf (nm k) [] = (if as0.last.getD k 0 = 0 then none else some (as0.last.getD k 0)) := fun k hk => by
  have : k = 0 ∨ k = 1 ∨ k = 2 := by omega
  rcases this with rfl | rfl | rfl <;> rfl
theorem INV.start : INV as0 where
  l3 := rfl
  ev := fun e he => by cases he
  n1 := by decide
  nE := by decide
  wl := rfl
  good := fun _ => ⟨[], [], by show goP 9 99 (pre ++ []) ps0 = _; rw [List.append_nil, pre_go]; rfl, rfl, (fun x hx => by cases hx), start_tf⟩
  ill := fun h => by cases h
theorem go_snoc {D K : Int} {A : List Ev} {s s1 : PS} {e : Ev} (h : goP D K A s = (0, s1)) : goP D K (A ++ [e]) s = if (takeP D K s1 e).1 = 0 then (0, (takeP D K s1 e).2) else ((takeP D K s1 e).1, s1) := by
  rw [goP_app, h, if_pos rfl]
  rfl
theorem put_root (W : List Int) (Nt : List Nd) (x : Int) : putN (root W :: Nt) [0] [0] x = (root (W ++ [x]) :: Nt, [0]) := rfl
theorem getD_set (l : List Int) (k j : Nat) (x : Int) (hk : k < l.length) : (l.set k x).getD j 0 = if j = k then x else l.getD j 0 := by
  by_cases h : j = k
  · subst h
    simp [hk]
  · rw [if_neg h]
    simp [List.getD_eq_getElem?_getD, List.getElem?_set_ne (Ne.symm h)]
theorem INV.step {s : AS} (hs : INV s) {k : Nat} (hk : k < 6) (t : ByteArray) (hn : s.E.length < 40) : INV (stepA s k t) := by
  obtain ⟨l3, ev, n1, nE, wl, good, ill⟩ := hs
  unfold stepA
  by_cases h3 : k < 3
  · rw [if_pos h3]
    refine ⟨by simp [l3], fun e he => ?_, by show 1 ≤ s.n + 1; omega, by simp; omega, by simp [wl], fun hb => ?_, fun hb => ?_⟩
    · rcases List.mem_append.1 he with he | he
      · exact ev e he
      · rw [List.mem_singleton.1 he]
        exact ⟨.inl rfl, by unfold evS cleanP; simp⟩
    · obtain ⟨Nt, T, g1, g2, g3, g4⟩ := good hb
      have hnd := nm_ne k
      have htk := take_node (D := 9) (K := 99) (s := ⟨root s.W :: Nt, [0], [0], T⟩) (e := evS t k) (.inl rfl) (fun h => by rcases h with h | h <;> cases h)
      have hlen : ((root s.W :: Nt).length : Int) = s.n := by simp; omega
      rw [if_neg (by rw [hlen]; omega)] at htk
      dsimp only at htk
      rw [show (root s.W :: Nt ++ [ndOf (evS t k)]) = root s.W :: (Nt ++ [ndOf (evS t k)]) from rfl, put_root] at htk
      rw [if_neg (show ¬ ((evS t k).k = 3 ∨ (evS t k).k = 5) by intro h; rcases h with h | h <;> cases h)] at htk
      rw [show (evS t k).an = nm k from rfl, hnd] at htk
      rw [hlen] at htk
      refine ⟨Nt ++ [ndOf (evS t k)], mset (nm k) (.int .i64 s.n) T, ?_, by simp; omega, g3.set _ _, fun j hj => ?_⟩
      · show goP 9 99 (pre ++ (s.E ++ [evS t k])) ps0 = _
        rw [← List.append_assoc, go_snoc g1, htk, if_pos rfl]
        rfl
      · show tf (nm j) _ = _
        rw [tf_mset g3, nm_eq j hj k h3, getD_set _ _ _ _ (by omega)]
        by_cases hjk : j = k
        · rw [if_pos hjk, if_pos (by simpa using hjk), if_neg (by omega)]
        · rw [if_neg hjk, if_neg (by simpa using hjk)]
          exact g4 j hj
    · show (goP 9 99 (pre ++ (s.E ++ [evS t k])) ps0).1 = 10
      have := ill hb
      rw [← List.append_assoc, goP_app, if_neg (by rw [this]; decide)]
      exact this
  · rw [if_neg h3]
    have hk3 : k - 3 < 3 := by omega
    refine ⟨l3, fun e he => ?_, n1, by simp; omega, by simp [wl], fun hb => ?_, fun hb => ?_⟩
    · rcases List.mem_append.1 he with he | he
      · exact ev e he
      · rw [List.mem_singleton.1 he]
        refine ⟨.inr rfl, ?_⟩
        have := nm_ne (k - 3)
        rw [beq_eq_false_iff_ne] at this
        have e2 : e0.toList = [] := (empty_iff _).2 rfl
        unfold evA cleanP
        simp [this, e2]
    · have hb' : (s.bad || s.last.getD (k - 3) 0 == 0) = false := hb
      rw [Bool.or_eq_false_iff, beq_eq_false_iff_ne] at hb'
      obtain ⟨Nt, T, g1, g2, g3, g4⟩ := good hb'.1
      have hta := g4 (k - 3) hk3
      rw [if_neg hb'.2, tf_eq _ _ 0] at hta
      have htk : takeP 9 99 ⟨root s.W :: Nt, [0], [0], T⟩ (evA (k - 3)) = (0, ⟨root (s.W ++ [s.last.getD (k - 3) 0]) :: Nt, [0], [0], T⟩) := by
        show aliasP ⟨root s.W :: Nt, [0], [0], T⟩ (nm (k - 3)) = _
        unfold aliasP
        dsimp only
        split at hta
        · rename_i j kk k2 hm
          rw [hm]
          cases hta
          rfl
        · cases hta
      refine ⟨Nt, T, ?_, g2, g3, g4⟩
      show goP 9 99 (pre ++ (s.E ++ [evA (k - 3)])) ps0 = _
      rw [← List.append_assoc, go_snoc g1, htk, if_pos rfl]
    · show (goP 9 99 (pre ++ (s.E ++ [evA (k - 3)])) ps0).1 = 10
      have hb' : (s.bad || s.last.getD (k - 3) 0 == 0) = true := hb
      cases hsb : s.bad with
      | true =>
        have := ill hsb
        rw [← List.append_assoc, goP_app, if_neg (by rw [this]; decide)]
        exact this
      | false =>
        rw [hsb, Bool.false_or, beq_iff_eq] at hb'
        obtain ⟨Nt, T, g1, g2, g3, g4⟩ := good hsb
        have hta := g4 (k - 3) hk3
        rw [if_pos hb', tf_eq _ _ 0] at hta
        have htk : takeP 9 99 ⟨root s.W :: Nt, [0], [0], T⟩ (evA (k - 3)) = (10, ⟨root s.W :: Nt, [0], [0], T⟩) := by
          show aliasP ⟨root s.W :: Nt, [0], [0], T⟩ (nm (k - 3)) = _
          unfold aliasP
          dsimp only
          split at hta
          · cases hta
          · rename_i hno
            split
            · rename_i j kk k2 hm
              exact absurd hm (hno _ _ _)
            · rfl
        rw [← List.append_assoc, go_snoc g1, htk]
        rfl
/-- The whole row. -/
def evsA (s : AS) : List Ev := pre ++ s.E ++ [evK 4, evK 2]
def againA (s : AS) : List Ev := evsA s ++ [evK 1, evA 0, evK 2]
theorem rn_mid : ∀ (E B : List Ev), (∀ e ∈ E, (e.k = 7 ∨ e.k = 8) ∧ cleanP e = true) → rn [3, 2] (E ++ B) = rn [3, 2] B
  | [], B, h => rfl
  | e :: E, B, h => by
    have ih := rn_mid E B (fun x hx => h x (by simp [hx]))
    have hs : stp [3, 2] e.k = some [3, 2] := by
      rcases (h e (by simp)).1 with h | h <;> rw [h] <;> rfl
    show (match stp [3, 2] e.k with | none => none | some s' => rn s' (E ++ B)) = _
    rw [hs]
    exact ih
theorem clean_k (x : Int) (h : x = 1 ∨ x = 2 ∨ x = 3 ∨ x = 4) : cleanP (evK x) = true := by
  have e2 : e0.toList = [] := (empty_iff _).2 rfl
  rcases h with rfl | rfl | rfl | rfl <;> (unfold evK cleanP; simp [e2])
theorem clean_a (k : Nat) : cleanP (evA k) = true := by
  have := nm_ne k
  rw [beq_eq_false_iff_ne] at this
  have e2 : e0.toList = [] := (empty_iff _).2 rfl
  unfold evA cleanP
  simp [this, e2]
theorem INV.right {s : AS} (hs : INV s) : rightP (evsA s) = true ∧ rightP (againA s) = true := by
  have hc : ∀ B : List Ev, B.all cleanP = true → (pre ++ s.E ++ B).all cleanP = true := fun B hB => by
    rw [List.all_append, List.all_append, hB, Bool.and_true, Bool.and_eq_true]
    refine ⟨?_, List.all_eq_true.2 fun e he => (hs.ev e he).2⟩
    unfold pre
    simp [clean_k]
  have hr : ∀ B : List Ev, rn [0] (pre ++ s.E ++ B) = rn [3, 2] B := fun B => by
    rw [List.append_assoc]
    show rn [3, 2] (s.E ++ B) = _
    exact rn_mid _ _ hs.ev
  refine ⟨(rightP_iff _).2 ⟨hc _ (by simp [clean_k]), by unfold evsA; rw [hr]; rfl⟩, (rightP_iff _).2 ⟨?_, ?_⟩⟩
  · unfold againA evsA
    rw [List.append_assoc]
    exact hc _ (by simp [clean_k, clean_a])
  · unfold againA evsA
    rw [List.append_assoc, hr]
    rfl
theorem INV.fin {s : AS} (hs : INV s) (hb : s.bad = false) : ∃ Nt, graphP (evsA s) 9 99 = (0, root s.W :: Nt, [0]) ∧ Nt.length + 1 = s.n ∧ (graphP (againA s) 9 99).1 = 10 := by
  obtain ⟨Nt, T, g1, g2, g3, g4⟩ := hs.good hb
  obtain ⟨r1, r2⟩ := hs.right
  have c1 : cutP 9 200 = 9 := rfl
  have c2 : cutP 99 20000 = 99 := rfl
  have hgo : goP 9 99 (evsA s) ps0 = (0, ⟨root s.W :: Nt, [0], [], T⟩) := by
    unfold evsA
    rw [goP_app, g1, if_pos rfl]
    rfl
  have hag : (goP 9 99 (againA s) ps0).1 = 10 := by
    unfold againA
    rw [goP_app, hgo, if_pos rfl]
    rfl
  refine ⟨Nt, ?_, g2, ?_⟩
  · unfold graphP
    rw [r1, if_pos rfl, c1, c2]
    dsimp only
    rw [show (⟨[], [], [], []⟩ : PS) = ps0 from rfl, hgo, if_pos rfl]
  · unfold graphP
    rw [r2, if_pos rfl, c1, c2]
    dsimp only
    rw [show (⟨[], [], [], []⟩ : PS) = ps0 from rfl, if_neg (by rw [hag]; decide), hag]
theorem INV.wrong {s : AS} (hs : INV s) (hb : s.bad = true) : graphP (evsA s) 9 99 = (10, [], []) := by
  have g := hs.ill hb
  obtain ⟨r1, -⟩ := hs.right
  have c1 : cutP 9 200 = 9 := rfl
  have c2 : cutP 99 20000 = 99 := rfl
  have hgo : (goP 9 99 (evsA s) ps0).1 = 10 := by
    unfold evsA
    rw [goP_app, if_neg (by rw [g]; decide), g]
  unfold graphP
  rw [r1, if_pos rfl, c1, c2]
  dsimp only
  rw [show (⟨[], [], [], []⟩ : PS) = ps0 from rfl, if_neg (by rw [hgo]; decide), hgo]
end Go.Proofs.YteeanpfhngoobaaGreat.Xk
