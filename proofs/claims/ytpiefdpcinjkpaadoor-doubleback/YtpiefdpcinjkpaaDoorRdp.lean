/- Lines as items: in plain terms what lines between quotes are read as, or why they are none. -/
import Derived.Test.YtpiefdpcinjkpaaDoorItm
import Derived.Test.YtpiefdpcinjkpaaDoorRefB
set_option linter.unusedVariables false
set_option linter.unusedSimpArgs false
namespace Go.Proofs.YtpiefdpcinjkpaaDoor
open Go.RowKit Go.Shelf

def lAt (ls : List (List Int)) (k : Nat) : List Int := ls[k]?.getD []
def lnT (o : Bool) (t : List Int) : List Int := if o then dropF t else t
/-- Lines that are done, the one under way, and whether there is one. -/
structure Si where
  L : List (List Item)
  C : List Item
  o : Bool
def siNext (s : Si) (t : List Int) (last : Bool) : Si :=
  if opnI false (itP last 0 (lnT s.o t)) then ⟨s.L, s.C ++ itP last 0 (lnT s.o t), true⟩ else ⟨s.L ++ [s.C ++ itP last 0 (lnT s.o t)], [], false⟩
def siAt (ls : List (List Int)) : Nat → Si
  | 0 => ⟨[], [], false⟩
  | k + 1 => siNext (siAt ls k) (lAt ls k) (decide (k + 1 = ls.length))
def flAt (ls : List (List Int)) (k : Nat) : Nat := flP (decide (k + 1 = ls.length)) 0 (lnT (siAt ls k).o (lAt ls k))
def readE (ls : List (List Int)) : Nat := (((List.range ls.length).find? fun k => decide (flAt ls k ≠ 0)).map (flAt ls)).getD 0

def trimI (f b : Bool) (u : List Item) : List Item :=
  if b then ((if f then u.dropWhile softI else u).reverse.dropWhile softI).reverse else (if f then u.dropWhile softI else u)
def sepJ (f : Bool) (e : Nat) : List Item := if f = true ∧ e = 0 then [(32, false)] else List.replicate e (10, false)
def gstep (f b : Bool) (st : List Item × Nat) (u : List Item) : List Item × Nat :=
  if f = true ∧ b = true ∧ trimI f b u = [] then (st.1, st.2 + 1) else (st.1 ++ sepJ f st.2 ++ trimI f b u, 0)
def gAt (L : List (List Item)) (k : Nat) : List Item := L[k]?.getD []
def flI (L : List (List Item)) : Nat → List Item × Nat
  | 0 => ([], 0)
  | k + 1 => gstep (decide (0 < k)) (decide (k + 1 < L.length)) (flI L k) (gAt L k)
def readT (ls : List (List Int)) : List Int := ((flI (siAt ls ls.length).L (siAt ls ls.length).L.length).1.filter keepI).map (·.1)

theorem soft_map (x : Item) : blankP (drI x) = softI x := by
  obtain ⟨c, h⟩ := x
  cases h <;> simp [drI, softI, blankP]
theorem dropW_map : ∀ u : List Item, (u.map drI).dropWhile blankP = (u.dropWhile softI).map drI
  | [] => rfl
  | x :: u => by
    rw [List.map_cons, List.dropWhile_cons, List.dropWhile_cons, soft_map]
    split
    · exact dropW_map u
    · rfl
theorem trim_map (f b : Bool) (u : List Item) : trimF f b (u.map drI) = (trimI f b u).map drI := by
  unfold trimF trimI dropF dropB
  cases f <;> cases b <;> simp only [Bool.false_eq_true, if_false, if_true]
  · rw [← List.map_reverse, dropW_map, List.map_reverse]
  · rw [dropW_map]
  · rw [dropW_map, ← List.map_reverse, dropW_map, List.map_reverse]

theorem flS_items {R : List Row} {L : List (List Item)} (h : R.map (·.t) = L.map (·.map drI)) : ∀ k, (flS R k).1 = (flI L k).1.map drI ∧ (flS R k).2 = (flI L k).2
  | 0 => ⟨rfl, rfl⟩
  | k + 1 => by
    obtain ⟨h1, h2⟩ := flS_items h k
    have hlen : R.length = L.length := by have := congrArg List.length h; simpa using this
    have ht : tAt R k = (gAt L k).map drI := by
      unfold tAt gAt
      have := congrArg (·[k]?) h
      simp only [List.getElem?_map] at this
      rw [this]
      cases L[k]? <;> rfl
    have hg : trimG R k = (trimI (decide (0 < k)) (decide (k + 1 < L.length)) (gAt L k)).map drI := by
      unfold trimG
      rw [ht, trim_map, hlen]
    rw [flS, flI]
    unfold gstep tellF
    rw [hg, List.length_map, hlen]
    generalize trimI (decide (0 < k)) (decide (k + 1 < L.length)) (gAt L k) = u
    by_cases hk : 0 < k
    · by_cases hl : k + 1 < L.length
      · by_cases hu : u = []
        · subst hu
          simp [hk, hl, h1, h2]
        · have hu' : u.length ≠ 0 := fun e => hu (List.eq_nil_of_length_eq_zero e)
          simp only [hk, hl, decide_true, Bool.and_self, Bool.true_and, hu', decide_false, Bool.not_false, if_true, hu, and_false, if_false, List.map_append, h1, h2]
          refine ⟨?_, trivial⟩
          unfold sepR sepJ
          simp only [hk, true_and]
          split <;> simp [drI]
      · simp only [hk, hl, decide_true, decide_false, Bool.and_false, Bool.false_and, Bool.not_false, if_true, Bool.false_eq_true, false_and, and_false, if_false, List.map_append, h1, h2]
        refine ⟨?_, trivial⟩
        unfold sepR sepJ
        simp only [hk, true_and]
        split <;> simp [drI]
    · simp only [hk, decide_false, Bool.false_and, Bool.not_false, if_true, Bool.false_eq_true, false_and, if_false, List.map_append, h1, h2]
      refine ⟨?_, trivial⟩
      unfold sepR sepJ
      simp [hk, drI]

theorem hards_soft {u : List Item} (h : ∀ x ∈ u, softI x = true) : hards u = [] := by
  unfold hards
  rw [List.map_eq_nil_iff, List.filter_eq_nil_iff]
  intro x hx
  have := h x hx
  unfold softI at this
  simp at this
  simp [this.1]
theorem hards_drop (u : List Item) : hards (u.dropWhile softI) = hards u := by
  have h := List.takeWhile_append_dropWhile (p := softI) (l := u)
  have h1 : hards (u.takeWhile softI) = [] := hards_soft (fun x hx => by
    have := List.all_takeWhile (p := softI) (l := u)
    rw [List.all_eq_true] at this
    exact this x hx)
  have h2 := congrArg hards h
  rw [hards_app, h1, List.nil_append] at h2
  exact h2
theorem hards_rev (u : List Item) : hards u.reverse = (hards u).reverse := by simp [hards]
theorem hards_trim (f b : Bool) (u : List Item) : hards (trimI f b u) = hards u := by
  unfold trimI
  cases f <;> cases b <;> simp only [Bool.false_eq_true, if_false, if_true]
  · rw [hards_rev, hards_drop, hards_rev, List.reverse_reverse]
  · rw [hards_drop]
  · rw [hards_rev, hards_drop, hards_rev, List.reverse_reverse, hards_drop]
theorem hards_sep (f : Bool) (e : Nat) : hards (sepJ f e) = [] := by
  unfold sepJ
  split
  · simp [hards]
  · simp [hards]
theorem hards_fl (L : List (List Item)) : ∀ k, k ≤ L.length → hards (flI L k).1 = hards (L.take k).flatten
  | 0, _ => by simp [flI, hards]
  | k + 1, hk => by
    have ih := hards_fl L k (by omega)
    have e : L.take (k + 1) = L.take k ++ [gAt L k] := by
      rw [List.take_add_one]
      simp [gAt, List.getElem?_eq_getElem (show k < L.length by omega)]
    rw [e, List.flatten_append, hards_app, flI]
    unfold gstep
    split
    · rename_i h
      have := hards_trim (decide (0 < k)) (decide (k + 1 < L.length)) (gAt L k)
      rw [h.2.2] at this
      simp only [List.flatten_cons, List.flatten_nil, List.append_nil]
      rw [← this, ih]
      simp [hards]
    · simp only [List.flatten_cons, List.flatten_nil, List.append_nil]
      rw [hards_app, hards_app, hards_sep, hards_trim, ih, List.append_nil]

def okI (u : List Item) : Prop := ∀ x ∈ u, x.2 = false → x.1 ≠ 92
theorem okI_app {a b : List Item} (ha : okI a) (hb : okI b) : okI (a ++ b) := fun x hx => by
  rcases List.mem_append.1 hx with h | h
  · exact ha x h
  · exact hb x h
theorem okI_trim {f b : Bool} {u : List Item} (h : okI u) : okI (trimI f b u) := by
  have h1 : ∀ v : List Item, okI v → okI (v.dropWhile softI) := fun v hv x hx => hv x ((List.dropWhile_sublist softI).subset hx)
  have h2 : ∀ v : List Item, okI v → okI v.reverse := fun v hv x hx => hv x (List.mem_reverse.1 hx)
  unfold trimI
  cases f <;> cases b <;> simp only [Bool.false_eq_true, if_false, if_true]
  · exact h
  · exact h2 _ (h1 _ (h2 _ h))
  · exact h1 _ h
  · exact h2 _ (h1 _ (h2 _ (h1 _ h)))
theorem okI_sep (f : Bool) (e : Nat) : okI (sepJ f e) := by
  unfold sepJ
  split
  · intro x hx; simp at hx; subst hx; simp
  · intro x hx; have := List.eq_of_mem_replicate hx; subst this; simp
theorem okI_fl {L : List (List Item)} (h : ∀ u ∈ L, okI u) : ∀ k, okI (flI L k).1
  | 0 => by intro x hx; simp [flI] at hx
  | k + 1 => by
    have ih := okI_fl h k
    have hg : okI (gAt L k) := by
      unfold gAt
      cases hL : L[k]? with
      | none => intro x hx; simp at hx
      | some u => exact h u (List.mem_of_getElem? hL)
    rw [flI]
    unfold gstep
    split
    · exact ih
    · exact okI_app (okI_app ih (okI_sep _ _)) (okI_trim hg)

theorem itP_len (last : Bool) : ∀ (l : List Int) (k : Nat), (itP last k l).length ≤ l.length
  | [], k => by simp [itP]
  | c :: r, k + 1 => by rw [itP, List.length_cons]; have := itP_len last r k; omega
  | c :: r, 0 => by
    rw [itP]
    split
    · rw [List.length_cons, List.length_cons]; have := itP_len last r ((firstP r last).size - 1); omega
    · rw [List.length_cons, List.length_cons]; have := itP_len last r 0; omega

def totK (ls : List (List Int)) : Nat → Nat
  | 0 => 0
  | k + 1 => totK ls k + (lAt ls k).length
theorem totK_mono (ls : List (List Int)) {j k : Nat} (h : j ≤ k) : totK ls j ≤ totK ls k := by
  induction k with
  | zero => have : j = 0 := by omega
            subst this; exact Nat.le_refl _
  | succ k ih =>
    by_cases e : j = k + 1
    · subst e; exact Nat.le_refl _
    · have := ih (by omega); rw [totK]; omega
theorem lnT_len (o : Bool) (t : List Int) : (lnT o t).length ≤ t.length := by
  unfold lnT
  split
  · exact dropF_le t
  · exact Nat.le_refl _
theorem si_size (ls : List (List Int)) : ∀ k, ((siAt ls k).L.flatten ++ (siAt ls k).C).length ≤ totK ls k ∧ (siAt ls k).L.length ≤ k ∧ (∀ u ∈ (siAt ls k).L, okI u) ∧ okI (siAt ls k).C ∧ ((siAt ls k).o = false → (siAt ls k).C = [])
  | 0 => ⟨by simp [siAt], by simp [siAt], by simp [siAt], by intro x hx; simp [siAt] at hx, fun _ => rfl⟩
  | k + 1 => by
    obtain ⟨h1, h2, h3, h4, h5⟩ := si_size ls k
    have h6 := itP_len (decide (k + 1 = ls.length)) (lnT (siAt ls k).o (lAt ls k)) 0
    have h7 := lnT_len (siAt ls k).o (lAt ls k)
    have h8 : okI (itP (decide (k + 1 = ls.length)) 0 (lnT (siAt ls k).o (lAt ls k))) := itP_soft _ _ _
    rw [siAt, totK]
    unfold siNext
    rw [List.length_append] at h1
    split
    · refine ⟨?_, by dsimp only; omega, h3, okI_app h4 h8, fun e => by cases e⟩
      dsimp only
      rw [List.length_append, List.length_append]
      omega
    · refine ⟨?_, by simp; omega, ?_, fun x hx => by simp at hx, fun _ => rfl⟩
      · simp only [List.flatten_append, List.flatten_cons, List.flatten_nil, List.append_nil, List.length_append, List.length_nil]
        omega
      · intro u hu
        rcases List.mem_append.1 hu with hu | hu
        · exact h3 u hu
        · simp at hu; subst hu; exact okI_app h4 h8

theorem hards_len (u : List Item) : (hards u).length ≤ u.length := by
  unfold hards
  rw [List.length_map]
  exact List.length_filter_le _ _
theorem flat_le : ∀ (L : List (List Item)) (u : List Item), u ∈ L → u.length ≤ L.flatten.length
  | a :: L, u, h => by
    rw [List.flatten_cons, List.length_append]
    rcases List.mem_cons.1 h with rfl | h
    · omega
    · have := flat_le L u h; omega

/-- Behind the last line none is under way. -/
theorem si_last (ls : List (List Int)) (h : ∀ k, k < ls.length → flAt ls k = 0) : (siAt ls ls.length).o = false ∧ (siAt ls ls.length).C = [] := by
  cases hn : ls.length with
  | zero => exact ⟨rfl, rfl⟩
  | succ n =>
    have hf := h n (by omega)
    unfold flAt at hf
    rw [hn] at hf
    simp only [decide_true] at hf
    rw [siAt]
    unfold siNext
    rw [hn]
    simp only [decide_true]
    have := (itP_end true (lnT (siAt ls n).o (lAt ls n)) 0 hf).1 false
    split
    · rename_i ho
      rcases this ho with ⟨e, -⟩ | ⟨_, _, _, e⟩ <;> cases e
    · exact ⟨rfl, rfl⟩

theorem readE_first {ls : List (List Int)} {k : Nat} (hk : k < ls.length) (h : ∀ j, j < k → flAt ls j = 0) (hf : flAt ls k ≠ 0) : readE ls = flAt ls k := by
  unfold readE
  have : (List.range ls.length).find? (fun k => decide (flAt ls k ≠ 0)) = some k := by
    rw [List.find?_eq_some_iff_getElem]
    refine ⟨by simpa using hf, k, by simpa using hk, by simp, fun j hj => ?_⟩
    simpa using h j hj
  rw [this]; rfl
theorem readE_none {ls : List (List Int)} (h : ∀ k, k < ls.length → flAt ls k = 0) : readE ls = 0 := by
  unfold readE
  have : (List.range ls.length).find? (fun k => decide (flAt ls k ≠ 0)) = none := by
    rw [List.find?_eq_none]
    intro k hk
    simpa using h k (List.mem_range.1 hk)
  rw [this]; rfl
end Go.Proofs.YtpiefdpcinjkpaaDoor
