/- Two lines that are joined: in plain terms, and what the walk of DoubleJoins wants. -/
import Derived.Test.YtpiefdpcinjkpaaDoorRde
import Derived.Test.YtpiefdpcinjkpaaDoorRed
import Derived.Test.YtpiefdpcinjkpaaDoorPln
set_option linter.unusedVariables false
set_option linter.unusedSimpArgs false
namespace Go.Proofs.YtpiefdpcinjkpaaDoor
open Go.RowKit Go.Shelf

theorem apS {w : World} {base p k c0} {xs u : List Int} {q : Option Addr} (c : Nat) (h : Owns w base (.slice p k c0) xs) (hb : base ≤ w.heap.size) (hn : xs.length + u.length ≤ 1000) (hI : Is w q u) :
    ∃ p' k' c' w1, (Builtin.append_ #[25, 25] 25 #[.slice p k c0, .slice q u.length c]).run Tryd.prog w = .ok (.slice p' k' c') w1 ∧ Owns w1 base (.slice p' k' c') (xs ++ u) ∧ Below base w w1 := by
  obtain ⟨v, w1, hr, ho, hg, -⟩ := pushX c h hb (by omega) hI
  obtain ⟨a, k', c', rfl⟩ := ownsRow_form ho
  exact ⟨a, k', c', w1, hr, ho, owns_below h hg (Nat.le_refl _) hb⟩
theorem apN (w : World) {u : List Int} {q : Option Addr} (c : Nat) (hn : u.length ≤ 1000) (hI : Is w q u) :
    ∃ p' k' c' w1, (Builtin.append_ #[25, 25] 25 #[.slice none 0 0, .slice q u.length c]).run Tryd.prog w = .ok (.slice p' k' c') w1 ∧ Owns w1 w.heap.size (.slice p' k' c') u ∧ Below w.heap.size w w1 := by
  have h0 : Owns w w.heap.size (.slice none 0 0) [] := World.ownsRow_nil _ _ 3 1
  exact apS c h0 (Nat.le_refl _) (by simpa using hn) hI
theorem ap1 {w : World} {base p k c0} {xs : List Int} (h : Owns w base (.slice p k c0) xs) (hb : base ≤ w.heap.size) (hn : xs.length ≤ 1000) (x : Int) :
    ∃ p' k' c' w1, (Builtin.append_ #[25, 25] 25 #[.slice p k c0, .slice (some ⟨w.heap.size, 0, none⟩) 1 1]).run Tryd.prog (w.alloc (.cells #[.int .i64 x] 3)) = .ok (.slice p' k' c') w1 ∧ Owns w1 base (.slice p' k' c') (xs ++ [x]) ∧ Below base w w1 := by
  obtain ⟨v, w1, hr, ho, hg⟩ := push1w h hb (by omega) x
  obtain ⟨a, k', c', rfl⟩ := ownsRow_form ho
  exact ⟨a, k', c', w1, hr, ho, hg⟩
theorem ap2 {w : World} {base p k c0} {xs : List Int} (h : Owns w base (.slice p k c0) xs) (hb : base ≤ w.heap.size) (hn : xs.length ≤ 900) (x y : Int) :
    ∃ p' k' c' w1, (Builtin.append_ #[25, 25] 25 #[.slice p k c0, .slice (some ⟨w.heap.size, 0, none⟩) 2 2]).run Tryd.prog (w.alloc (.cells #[.int .i64 x, .int .i64 y] 3)) = .ok (.slice p' k' c') w1 ∧ Owns w1 base (.slice p' k' c') (xs ++ [x, y]) ∧ Below base w w1 := by
  have hnew := World.alloc_heap_new w (.cells #[.int .i64 x, .int .i64 y] 3)
  have hI : Is (w.alloc (.cells #[.int .i64 x, .int .i64 y] 3)) (some ⟨w.heap.size, 0, none⟩) [x, y] := .inr ⟨_, 0, rfl, fun j hj => by
    match j, hj with
    | 0, _ => unfold World.cell?; dsimp only; rw [hnew]; rfl
    | 1, _ => unfold World.cell?; dsimp only; rw [hnew]; rfl
    | j + 2, hj => exact absurd hj (by simp)⟩
  obtain ⟨p', k', c', w1, hr, ho, hb1⟩ := apS 2 (h.alloc (.cells #[.int .i64 x, .int .i64 y] 3)) (by simp; omega) (by simp; omega) hI
  exact ⟨p', k', c', w1, hr, ho, ((Below.refl base w).alloc hb _).trans hb1⟩
theorem owns_lit2 (w : World) (x y : Int) : Owns (w.alloc (.cells #[.int .i64 x, .int .i64 y] 3)) w.heap.size (.slice (some ⟨w.heap.size, 0, none⟩) 2 2) [x, y] :=
  World.ownsRow_lit (base := w.heap.size) (e := 3) (size := 1) w #[.int .i64 x, .int .i64 y] 2 (Nat.le_refl _) (by unfold maxLen; omega) rfl
theorem sameS (p q : Option Addr) (l : List Int) (k m c d : Nat) (w : World) (hn : l.length ≤ 1000) (hk : k = l.length) (hm : m = l.length) (hp : Is w p l) (hq : Is w q l) :
    Calls Tryd.prog 14 #[.slice p k c, .slice q m d] w fun e w' => e = .returned (.bool true) ∧ ∃ k, w' = w.drewN k := by
  subst hk
  rw [hm]
  exact same_ints p q l c d w (by omega) hp hq

theorem Read_two (q r : Option Addr) (s t T : List Int) (k m c d : Nat) (W : World) (hk : k = s.length) (hm : m = t.length) (hI : Is W q s) (hc : k ≤ c) (hcm : c ≤ maxLen) (hJ : Is W r t) (hd : m ≤ d) (hdm : d ≤ maxLen)
    (hs : s.length ≤ 1000) (ht : t.length ≤ 1000) (hT : Tab W) (hE : readE [s, t] = 0) (hX : readT [s, t] = T) :
    Calls Tryd.prog 11 #[.slice (some ⟨W.heap.size, 0, none⟩) 2 2] (W.alloc (.cells #[.slice q k c, .slice r m d] 25)) fun e w' => ∃ q' k' c', e = .returned (.tuple #[.slice q' k' c', .int .i64 0]) ∧ k' = T.length ∧ Is w' q' T ∧ Below W.heap.size W w' := by
  subst hk hm
  have hM : Mt (W.alloc (.cells #[.slice q s.length c, .slice r t.length d] 25)) (some ⟨W.heap.size, 0, none⟩) [⟨q, s, c⟩, ⟨r, t, d⟩] := by
    have hb := World.alloc_heap_new W (.cells #[.slice q s.length c, .slice r t.length d] 25)
    refine ⟨fun j r hr => ?_, .inr ⟨_, 0, rfl, fun j r hr => ?_⟩⟩
    · match j, hr with
      | 0, hr => cases hr; exact ⟨hc, hcm, hI.alloc _⟩
      | 1, hr => cases hr; exact ⟨hd, hdm, hJ.alloc _⟩
      | j + 2, hr => simp at hr
    · match j, hr with
      | 0, hr => cases hr; unfold World.cell?; dsimp only; rw [hb]; rfl
      | 1, hr => cases hr; unfold World.cell?; dsimp only; rw [hb]; rfl
      | j + 2, hr => simp at hr
  have RD := Read_any (some ⟨W.heap.size, 0, none⟩) [⟨q, s, c⟩, ⟨r, t, d⟩] 2 _ hM (by simp) (by simp [totK, lAt]; omega) (hT.grown (grown_new _ _))
  refine RD.mono ?_
  rintro e w' ⟨hb, h⟩
  have e1 : ([⟨q, s, c⟩, ⟨r, t, d⟩] : List Row).map (·.t) = [s, t] := rfl
  rw [e1, hE, hX] at h
  rcases h with ⟨h, -⟩ | ⟨h1, v, rfl, ho⟩
  · exact absurd rfl h
  · obtain ⟨q', c', rfl, hI'⟩ := ho.read
    exact ⟨q', _, c', rfl, rfl, hI', (grown_below (grown_new _ _)).trans (hb.mono (by simp))⟩

def lets (a : List Int) : Prop := ∀ x ∈ a, 97 ≤ x ∧ x ≤ 122
theorem lets_no {a : List Int} (h : lets a) : ∀ x ∈ a, x ≠ 92 := fun x hx e => by have := h x hx; omega
theorem it_app (last : Bool) (r : List Int) : ∀ s : List Int, (∀ c ∈ s, c ≠ 92) → itP last 0 (s ++ r) = s.map (fun c => (c, false)) ++ itP last 0 r ∧ flP last 0 (s ++ r) = flP last 0 r
  | [], _ => ⟨rfl, rfl⟩
  | c :: s, h => by
    obtain ⟨h1, h2⟩ := it_app last r s (fun x hx => h x (by simp [hx]))
    have hc := h c (by simp)
    rw [List.cons_append, itP, flP, if_neg hc, if_neg hc, h1]
    exact ⟨rfl, h2⟩
theorem keep_plain (s : List Int) : ∀ x ∈ s.map (fun c => ((c, false) : Item)), keepI x = true := fun x hx => by
  obtain ⟨c, -, rfl⟩ := List.mem_map.1 hx
  rfl
theorem two_parts (last : Bool) (n : Nat) {b : List Int} (hb : lets b) : flP last 0 (List.replicate n 32 ++ b) = 0 ∧ onP last (List.replicate n 32 ++ b) = false ∧ frI true (uP last (List.replicate n 32 ++ b)) = b.map (fun c => (c, false)) := by
  have hno : ∀ x ∈ List.replicate n 32 ++ b, x ≠ 92 := fun x hx => by
    rcases List.mem_append.1 hx with h | h
    · rw [List.eq_of_mem_replicate h]; decide
    · exact lets_no hb x h
  obtain ⟨h1, h2⟩ := it_plain last _ hno
  obtain ⟨h3, h4⟩ := it_split (on := false) (u := (List.replicate n 32 ++ b).map fun c => (c, false)) (by simpa using h2) (keep_plain _)
  refine ⟨h1, h3.symm, ?_⟩
  rw [← h4]
  unfold frI
  rw [if_pos rfl]
  clear h1 h2 h3 h4 hno
  induction n with
  | zero =>
    cases b with
    | nil => rfl
    | cons x b =>
      have := hb x (by simp)
      rw [List.replicate_zero, List.nil_append, List.map_cons, List.dropWhile_cons, if_neg]
      simp [softI, blankP]
      omega
  | succ n ih =>
    rw [List.replicate_succ, List.cons_append, List.map_cons, List.dropWhile_cons, if_pos (by decide)]
    exact ih
theorem read_join {s t : List Int} {us ub : List Item} {on : Bool} (h1 : flP false 0 s = 0) (h2 : flP true 0 t = 0) (o1 : onP false s = on) (o2 : onP true t = false) (u1 : bkI (!on) (uP false s) = us) (u2 : frI true (uP true t) = ub) :
    readE [s, t] = 0 ∧ readT [s, t] = us.map (·.1) ++ (if on then [] else [32]) ++ ub.map (·.1) := by
  have hz : ∀ j, j < [s, t].length → flP (decide (j + 1 = [s, t].length)) 0 (lAt [s, t] j) = 0 := fun j hj => by
    match j, hj with
    | 0, _ => exact h1
    | 1, _ => exact h2
    | j + 2, hj => exact absurd hj (by simp)
  refine ⟨readE_none (fun k hk => by rw [flAt_eq]; exact hz k hk), ?_⟩
  rw [readT_rs _ hz]
  show (rsNext (rsNext ⟨[], 0, false⟩ 0 2 s) 1 2 t).out = _
  have e1 : rsNext ⟨[], 0, false⟩ 0 2 s = ⟨us.map (·.1), 0, on⟩ := by
    unfold rsNext ruP
    rw [if_neg (by omega)]
    have d0 : decide (0 + 1 = 2) = false := rfl
    have d1 : decide (0 + 1 < 2) = true := rfl
    have d2 : decide (0 < 0) = false := rfl
    have d3 : frI false (uP false s) = uP false s := rfl
    rw [d0, d1, d2, d3, o1, Bool.true_and, u1]
    simp
  rw [e1]
  unfold rsNext ruP
  rw [if_neg (by omega)]
  have d0 : decide (1 + 1 = 2) = true := rfl
  have d1 : decide (1 + 1 < 2) = false := rfl
  have d2 : decide (0 < 1) = true := rfl
  rw [d0, d1, d2, Bool.false_and]
  have d3 : bkI false (frI true (uP true t)) = frI true (uP true t) := rfl
  rw [d3, u2]
  cases on <;> simp
theorem join_one (n : Nat) {a b : List Int} (ha : lets a) (hb : lets b) : readE [a ++ List.replicate n 32 ++ [92], List.replicate n 32 ++ b] = 0 ∧ readT [a ++ List.replicate n 32 ++ [92], List.replicate n 32 ++ b] = a ++ List.replicate n 32 ++ b := by
  have hno : ∀ x ∈ a ++ List.replicate n 32, x ≠ 92 := fun x hx => by
    rcases List.mem_append.1 hx with h | h
    · exact lets_no ha x h
    · rw [List.eq_of_mem_replicate h]; decide
  obtain ⟨h1, h2⟩ := it_app false [92] _ hno
  obtain ⟨h3, h4⟩ := it_split (on := true) (u := (a ++ List.replicate n 32).map fun c => (c, false)) (last := false) (t := a ++ List.replicate n 32 ++ [92]) h1 (keep_plain _)
  obtain ⟨g1, g2, g3⟩ := two_parts true n hb
  have := read_join (us := (a ++ List.replicate n 32).map fun c => (c, false)) (on := true) h2 g1 h3.symm g2 (show uP false _ = _ from h4.symm) g3
  refine ⟨this.1, ?_⟩
  rw [this.2]
  simp [List.map_map, Function.comp_def]
theorem join_two (n : Nat) {a b : List Int} (ha : lets a) (hb : lets b) : readE [[92, 32] ++ a ++ List.replicate n 32 ++ [92, 32], List.replicate n 32 ++ b] = 0 ∧ readT [[92, 32] ++ a ++ List.replicate n 32 ++ [92, 32], List.replicate n 32 ++ b] = [32] ++ a ++ List.replicate n 32 ++ [32, 32] ++ b := by
  have hno : ∀ x ∈ a ++ List.replicate n 32, x ≠ 92 := fun x hx => by
    rcases List.mem_append.1 hx with h | h
    · exact lets_no ha x h
    · rw [List.eq_of_mem_replicate h]; decide
  obtain ⟨h1, h2⟩ := it_app false [92, 32] _ hno
  have e0 : [92, 32] ++ a ++ List.replicate n 32 ++ [92, 32] = 92 :: 32 :: (a ++ List.replicate n 32 ++ [92, 32]) := by simp
  have f1 : ∀ r, firstP (32 :: r) false = ⟨2, 32, 0⟩ := fun r => rfl
  have h5 : itP false 0 (92 :: 32 :: (a ++ List.replicate n 32 ++ [92, 32])) = (32, true) :: (a ++ List.replicate n 32).map (fun c => (c, false)) ++ [(32, true)] := by
    rw [itP, if_pos rfl, f1, show (⟨2, 32, 0⟩ : Esc).size - 1 = 0 + 1 from rfl, itP, h1]
    rfl
  have h6 : flP false 0 (92 :: 32 :: (a ++ List.replicate n 32 ++ [92, 32])) = 0 := by
    rw [flP, if_pos rfl, f1, if_pos rfl, show (⟨2, 32, 0⟩ : Esc).size - 1 = 0 + 1 from rfl, flP, h2]
    rfl
  rw [e0]
  obtain ⟨h3, h4⟩ := it_split (on := false) (u := (32, true) :: (a ++ List.replicate n 32).map (fun c => (c, false)) ++ [(32, true)]) (last := false) (t := 92 :: 32 :: (a ++ List.replicate n 32 ++ [92, 32])) (h5.trans (List.append_nil _).symm) (fun x hx => by
    rcases List.mem_append.1 hx with hx | hx
    · rcases List.mem_cons.1 hx with rfl | hx
      · rfl
      · exact keep_plain _ x hx
    · simp at hx; subst hx; rfl)
  obtain ⟨g1, g2, g3⟩ := two_parts true n hb
  have hbk : bkI (!false) (uP false (92 :: 32 :: (a ++ List.replicate n 32 ++ [92, 32]))) = (32, true) :: (a ++ List.replicate n 32).map (fun c => (c, false)) ++ [(32, true)] := by
    rw [← h4, Bool.not_false, bkI_concat]
    rfl
  have := read_join (on := false) h6 g1 h3.symm g2 hbk g3
  refine ⟨this.1, ?_⟩
  rw [this.2]
  simp [List.map_map, Function.comp_def]
end Go.Proofs.YtpiefdpcinjkpaaDoor
