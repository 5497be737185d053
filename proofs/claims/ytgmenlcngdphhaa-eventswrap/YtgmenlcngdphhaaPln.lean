/- Rows of events in plain terms: what the program looks at, and what the document's own functions look at. -/
import Derived.Test.YtgmenlcngdphhaaLeaf
set_option linter.unusedVariables false
set_option linter.unusedSimpArgs false
namespace Go.Proofs.Ytgmenlcngdphhaa

/-- An event. -/
structure Ev where
  k : Int
  tx : ByteArray
  tg : ByteArray
  an : ByteArray
  st : Int
  fl : Bool

def bn (h : Nat) : Nat × Bool := if h = 1 then (2, true) else if h = 3 then (3, true) else if h = 4 then (5, true) else if h = 5 then (4, true) else (h, false)
/-- What a place becomes by an event of this kind, and whether one may stand there. -/
def fol (h : Nat) (k : Int) : Nat × Bool :=
  if k = 1 then (1, decide (h = 0)) else if k = 2 then (0, decide (h = 2)) else if k = 4 then (h, decide (h = 3)) else if k = 6 then (h, decide (h = 4))
  else if k = 7 ∨ k = 8 ∨ k = 3 ∨ k = 5 then bn h else (h, false)
/-- The places around, the innermost first, behind an event that may stand there. -/
def nxt (h : Nat) (r : List Nat) (k : Int) : List Nat :=
  if k = 3 then 3 :: (fol h k).1 :: r else if k = 5 then 4 :: (fol h k).1 :: r else if k = 4 ∨ k = 6 then r else (fol h k).1 :: r
def stp : List Nat → Int → Option (List Nat)
  | [], _ => none
  | h :: r, k => if (fol h k).2 then some (nxt h r k) else none
theorem stp_cons (h : Nat) (r : List Nat) (k : Int) : stp (h :: r) k = if (fol h k).2 then some (nxt h r k) else none := rfl
/-- The events that are told, each with its depth. -/
def told : List Nat → List Ev → List (Ev × Nat)
  | _, [] => []
  | s, e :: t => match stp s e.k with
    | none => []
    | some s' => (e, s'.length - 1) :: told s' t
/-- The places around behind the whole row. -/
def rn : List Nat → List Ev → Option (List Nat)
  | s, [] => some s
  | s, e :: t => match stp s e.k with
    | none => none
    | some s' => rn s' t
def cleanP (x : Ev) : Bool :=
  if x.k = 1 ∨ x.k = 2 then decide (x.tx.toList = [] ∧ x.tg.toList = [] ∧ x.an.toList = [] ∧ x.st = 0)
  else if x.k = 3 ∨ x.k = 5 then decide (x.tx.toList = [] ∧ x.st = 0)
  else if x.k = 4 ∨ x.k = 6 then decide (x.tx.toList = [] ∧ x.tg.toList = [] ∧ x.an.toList = [] ∧ x.st = 0 ∧ x.fl = false)
  else if x.k = 7 then decide (x.fl = false ∧ 1 ≤ x.st ∧ x.st ≤ 5)
  else if x.k = 8 then decide (x.tx.toList = [] ∧ x.tg.toList = [] ∧ x.st = 0 ∧ x.fl = false ∧ x.an.toList ≠ [])
  else false
def lastK : List Ev → Int
  | [] => 0
  | [e] => e.k
  | _ :: e :: t => lastK (e :: t)
def rightP (l : List Ev) : Bool := (told [0] l).all (fun x => cleanP x.1) && decide ((told [0] l).length = l.length ∧ (l = [] ∨ lastK l = 2))
def maxD : List (Ev × Nat) → Nat → Nat
  | [], m => m
  | x :: t, m => maxD t (max m x.2)
def depthP (l : List Ev) : Nat := if rightP l then maxD (told [0] l) 0 else 0
def nodesP (l : List Ev) : Nat := l.countP fun e => decide (e.k = 7 ∨ e.k = 3 ∨ e.k = 5)
/-- How many are told up to the first of depth 0. -/
def fst0 : List (Ev × Nat) → Option Nat
  | [] => none
  | x :: t => if x.2 = 0 then some 1 else (fst0 t).map (· + 1)
def upto (i : Nat) : Option Nat → Nat
  | none => i
  | some n => i + n
def endP (l : List Ev) (i : Nat) : Nat := upto i (fst0 (told [1] (l.drop i)))

-- the document's own
def rstp (o : List Int) (k : Int) : Option (List Int) :=
  if k = 7 ∨ k = 8 then some o else if k = 3 ∨ k = 5 then some ((k + 1) :: o) else if k = 4 ∨ k = 6 then (match o with | [] => none | c :: r => if c = k then some r else none) else none
/-- How many events there are up to where nothing is open. -/
def rend : List Int → List Ev → Option Nat
  | _, [] => none
  | o, e :: t => match rstp o e.k with
    | none => none
    | some [] => some 1
    | some (c :: r) => (rend (c :: r) t).map (· + 1)
def bump : List (Nat × Bool) → List (Nat × Bool)
  | [] => []
  | (c, m) :: r => (c + 1, m) :: r
/-- Has each mapping an even number of nodes? none: an end of nothing. -/
def prd : List (Nat × Bool) → List Ev → Option Bool
  | _, [] => some true
  | cs, e :: t => if e.k = 4 ∨ e.k = 6 then (match cs with | [] => none | (c, m) :: r => if m = true ∧ c % 2 = 1 then some false else prd r t)
    else prd (if e.k = 3 ∨ e.k = 5 then (0, decide (e.k = 5)) :: bump cs else bump cs) t
theorem prd_cons (cs : List (Nat × Bool)) (e : Ev) (t : List Ev) : prd cs (e :: t) = if e.k = 4 ∨ e.k = 6 then (match cs with | [] => none | (c, m) :: r => if m = true ∧ c % 2 = 1 then some false else prd r t)
    else prd (if e.k = 3 ∨ e.k = 5 then (0, decide (e.k = 5)) :: bump cs else bump cs) t := by rw [prd.eq_def]
def rnode (t : List Ev) : Option Nat := match rend [] t with
  | none => none
  | some n => (match prd [] (t.take n) with | some true => some n | _ => none)
def rendP (l : List Ev) (i : Nat) : Nat := upto i (rnode (l.drop i))
def rcleanP (x : Ev) : Bool :=
  !((decide (x.k ≠ 7) && (decide (x.tx.toList ≠ []) || decide (x.st ≠ 0))) || (decide (x.k = 7) && (decide (x.st < 1) || decide (5 < x.st)))) &&
  !((!(decide (x.k = 7 ∨ x.k = 3 ∨ x.k = 5)) && decide (x.tg.toList ≠ [])) || (!(decide (x.k = 7 ∨ x.k = 3 ∨ x.k = 5)) && decide (x.k ≠ 8) && decide (x.an.toList ≠ [])) || (decide (x.k = 8) && decide (x.an.toList = []))) &&
  (decide (x.k = 1 ∨ x.k = 2 ∨ x.k = 3 ∨ x.k = 5) || !x.fl)
def docsF : Nat → List Ev → Bool
  | 0, _ => true
  | f + 1, [] => true
  | f + 1, e :: t => decide (e.k = 1) && match rnode t with
    | none => false
    | some n => match t.drop n with
      | [] => false
      | d :: u => decide (d.k = 2) && docsF f u
def rrightP (l : List Ev) : Bool := l.all rcleanP && docsF (l.length + 1) l
def rdep : Int → Int → List Ev → Int
  | n, m, [] => m
  | n, m, e :: t =>
    let n' := if e.k = 3 ∨ e.k = 5 then n + 1 else if e.k = 4 ∨ e.k = 6 then n - 1 else n
    rdep n' (if n' > m then n' else m) t
def rdepthP (l : List Ev) : Int := if rrightP l then rdep 0 0 l else 0

-- nodes, where what lies around does not matter
/-- How many events there are up to where all of s is closed. -/
def nEnd : List Nat → List Ev → Option Nat
  | _, [] => none
  | s, e :: t => match stp s e.k with
    | none => none
    | some [] => some 1
    | some (h :: r) => (nEnd (h :: r) t).map (· + 1)
def node : List Ev → Option Nat
  | [] => none
  | e :: t => if e.k = 7 ∨ e.k = 8 then some 1 else if e.k = 3 then (nEnd [3] t).map (· + 1) else if e.k = 5 then (nEnd [4] t).map (· + 1) else none
theorem node_cons (e : Ev) (t : List Ev) : node (e :: t) = if e.k = 7 ∨ e.k = 8 then some 1 else if e.k = 3 then (nEnd [3] t).map (· + 1) else if e.k = 5 then (nEnd [4] t).map (· + 1) else none := rfl
def In (s : List Nat) : Prop := ∀ h ∈ s, h = 3 ∨ h = 4 ∨ h = 5

/-- The kinds that may stand in a collection. -/
theorem fol_in {h : Nat} {k : Int} (hh : h = 3 ∨ h = 4 ∨ h = 5) (hf : (fol h k).2 = true) :
    ((k = 7 ∨ k = 8 ∨ k = 3 ∨ k = 5) ∧ fol h k = bn h) ∨ (k = 4 ∧ h = 3) ∨ (k = 6 ∧ h = 4) := by
  unfold fol at hf
  by_cases h1 : k = 1
  · rw [if_pos h1] at hf; simp at hf; omega
  by_cases h2 : k = 2
  · rw [if_neg h1, if_pos h2] at hf; simp at hf; omega
  by_cases h4 : k = 4
  · rw [if_neg h1, if_neg h2, if_pos h4] at hf; simp at hf; exact .inr (.inl ⟨h4, hf⟩)
  by_cases h6 : k = 6
  · rw [if_neg h1, if_neg h2, if_neg h4, if_pos h6] at hf; simp at hf; exact .inr (.inr ⟨h6, hf⟩)
  by_cases h7 : k = 7 ∨ k = 8 ∨ k = 3 ∨ k = 5
  · exact .inl ⟨h7, by unfold fol; rw [if_neg h1, if_neg h2, if_neg h4, if_neg h6, if_pos h7]⟩
  · rw [if_neg h1, if_neg h2, if_neg h4, if_neg h6, if_neg h7] at hf; simp at hf
theorem fol_node {h : Nat} {k : Int} (hk : k = 7 ∨ k = 8 ∨ k = 3 ∨ k = 5) : fol h k = bn h := by
  unfold fol; rw [if_neg (by omega), if_neg (by omega), if_neg (by omega), if_neg (by omega), if_pos hk]
theorem bn_in {h : Nat} (hh : h = 3 ∨ h = 4 ∨ h = 5) : (bn h).2 = true ∧ ((bn h).1 = 3 ∨ (bn h).1 = 4 ∨ (bn h).1 = 5) := by
  rcases hh with rfl | rfl | rfl <;> simp [bn]

theorem stp_in {s s' : List Nat} {k : Int} (hs : In s) (h : stp s k = some s') : In s' := by
  cases s with
  | nil => cases h
  | cons a r =>
    have ha := hs a (by simp)
    have hr : In r := fun x hx => hs x (by simp [hx])
    rw [stp_cons] at h
    split at h
    · rename_i hf
      cases h
      have hb := (bn_in ha).2
      unfold nxt
      rcases fol_in ha hf with ⟨hk, e⟩ | ⟨hk, e⟩ | ⟨hk, e⟩
      · rw [e]
        split
        · intro x hx; simp at hx; rcases hx with rfl | rfl | hx
          · simp
          · exact hb
          · exact hr x hx
        · split
          · intro x hx; simp at hx; rcases hx with rfl | rfl | hx
            · simp
            · exact hb
            · exact hr x hx
          · rw [if_neg (by omega)]
            intro x hx; simp at hx; rcases hx with rfl | hx
            · exact hb
            · exact hr x hx
      · rw [if_neg (by omega), if_neg (by omega), if_pos (by omega)]; exact hr
      · rw [if_neg (by omega), if_neg (by omega), if_pos (by omega)]; exact hr
    · cases h
theorem stp_app {s s' : List Nat} {k : Int} (r : List Nat) (h : stp s k = some s') : stp (s ++ r) k = some (s' ++ r) := by
  cases s with
  | nil => cases h
  | cons a q =>
    rw [stp_cons] at h
    rw [List.cons_append, stp_cons]
    split at h
    · rename_i hf
      cases h
      simp only [hf, if_true, nxt]
      congr 1
      split
      · rfl
      · split
        · rfl
        · split <;> rfl
    · cases h
theorem stp_app_none {s : List Nat} {k : Int} (r : List Nat) (hs : s ≠ []) (h : stp s k = none) : stp (s ++ r) k = none := by
  cases s with
  | nil => exact absurd rfl hs
  | cons a q =>
    rw [stp_cons] at h
    rw [List.cons_append, stp_cons]
    split at h
    · cases h
    · rename_i hf
      simp only [hf, if_false]
      rfl

/-- The first of depth 0, above one place. -/
theorem fst_nEnd : ∀ (t : List Ev) (s : List Nat) (x : Nat), s ≠ [] → fst0 (told (s ++ [x]) t) = nEnd s t := by
  intro t
  induction t with
  | nil => intro s x _; rfl
  | cons e t ih =>
    intro s x hs
    cases hst : stp s e.k with
    | none => rw [told, nEnd, hst, stp_app_none [x] hs hst]; rfl
    | some s' =>
      rw [told, nEnd, hst, stp_app [x] hst]
      simp only [fst0]
      cases s' with
      | nil => simp
      | cons a r =>
        have : ¬ (a :: r ++ [x]).length - 1 = 0 := by simp
        rw [if_neg this, ih (a :: r) x (by simp)]
theorem stp_node {h : Nat} {r : List Nat} {k : Int} (hk : k = 7 ∨ k = 8 ∨ k = 3 ∨ k = 5) (hb : (bn h).2 = true) : stp (h :: r) k = some (if k = 3 then 3 :: (bn h).1 :: r else if k = 5 then 4 :: (bn h).1 :: r else (bn h).1 :: r) := by
  rw [stp_cons]
  unfold nxt
  rw [fol_node hk, if_pos hb]
  congr 1
  split
  · rfl
  · split
    · rfl
    · rw [if_neg (by omega)]
theorem fst_node (t : List Ev) : fst0 (told [1] t) = node t := by
  cases t with
  | nil => rfl
  | cons e t =>
    rw [node_cons]
    by_cases hk : e.k = 7 ∨ e.k = 8 ∨ e.k = 3 ∨ e.k = 5
    · rw [told, stp_node hk rfl]
      by_cases h3 : e.k = 3
      · have := fst_nEnd t [3] 2 (by simp)
        rw [List.singleton_append] at this
        rw [if_pos h3, if_neg (show ¬ (e.k = 7 ∨ e.k = 8) by omega), if_pos h3, ← this]
        rfl
      · by_cases h5 : e.k = 5
        · have := fst_nEnd t [4] 2 (by simp)
          rw [List.singleton_append] at this
          rw [if_neg h3, if_pos h5, if_neg (show ¬ (e.k = 7 ∨ e.k = 8) by omega), if_neg h3, if_pos h5, ← this]
          rfl
        · rw [if_neg h3, if_neg h5, if_pos (show e.k = 7 ∨ e.k = 8 by omega)]
          rfl
    · rw [if_neg (by omega), if_neg (by omega), if_neg (by omega), told]
      have : stp [1] e.k = none := by
        rw [stp_cons]
        unfold fol
        by_cases h1 : e.k = 1
        · simp [h1]
        · by_cases h2 : e.k = 2
          · simp [h2]
          · by_cases h4 : e.k = 4
            · simp [h4]
            · by_cases h6 : e.k = 6
              · simp [h6]
              · rw [if_neg h1, if_neg h2, if_neg h4, if_neg h6, if_neg hk]; rfl
      rw [this]
      rfl
theorem endP_eq (l : List Ev) (i : Nat) : endP l i = upto i (node (l.drop i)) := by unfold endP; rw [fst_node]

-- the document's
def clo (h : Nat) : Int := if h = 3 then 4 else 6
def Cor : List Nat → List (Nat × Bool) → Prop
  | [], [] => True
  | h :: s, (c, m) :: cs => ((h = 3 ∧ m = false) ∨ (h = 4 ∧ m = true ∧ c % 2 = 0) ∨ (h = 5 ∧ m = true ∧ c % 2 = 1)) ∧ Cor s cs
  | _, _ => False
theorem cor_bump {h : Nat} {r : List Nat} {cs : List (Nat × Bool)} (hc : Cor (h :: r) cs) : Cor ((bn h).1 :: r) (bump cs) ∧ (bn h).2 = true := by
  match cs, hc with
  | (c, m) :: cs, hc =>
    obtain ⟨h1, h2⟩ := hc
    unfold bump Cor
    rcases h1 with ⟨rfl, rfl⟩ | ⟨rfl, rfl, hp⟩ | ⟨rfl, rfl, hp⟩
    · exact ⟨⟨.inl ⟨rfl, rfl⟩, h2⟩, rfl⟩
    · exact ⟨⟨.inr (.inr ⟨rfl, rfl, by omega⟩), h2⟩, rfl⟩
    · exact ⟨⟨.inr (.inl ⟨rfl, rfl, by omega⟩), h2⟩, rfl⟩
theorem clo_bn {h : Nat} (hh : h = 3 ∨ h = 4 ∨ h = 5) : clo (bn h).1 = clo h := by rcases hh with rfl | rfl | rfl <;> rfl
theorem cor_in {h : Nat} {r : List Nat} {cs : List (Nat × Bool)} (hc : Cor (h :: r) cs) : h = 3 ∨ h = 4 ∨ h = 5 := by
  match cs, hc with
  | (c, m) :: cs, hc => rcases hc.1 with ⟨h1, -⟩ | ⟨h1, -⟩ | ⟨h1, -⟩ <;> omega

/-- A run of the document's and the program's, side by side. -/
theorem side : ∀ (t : List Ev) (s : List Nat) (cs : List (Nat × Bool)) (n : Nat), s ≠ [] → Cor s cs → rend (s.map clo) t = some n →
    (∃ b, prd cs (t.take n) = some b ∧ ((b = true ∧ nEnd s t = some n) ∨ (b = false ∧ nEnd s t = none))) := by
  intro t
  induction t with
  | nil => intro s cs n _ _ h; cases h
  | cons e t ih =>
    intro s cs n hs hc h
    obtain ⟨a, r, rfl⟩ : ∃ a r, s = a :: r := by cases s with | nil => exact absurd rfl hs | cons a r => exact ⟨a, r, rfl⟩
    have ha := cor_in hc
    obtain ⟨cb, bb⟩ := cor_bump hc
    rw [rend] at h
    -- what is pushed or stays
    have go : ∀ (s' : List Nat) (cs' : List (Nat × Bool)), s' ≠ [] → Cor s' cs' → rstp ((a :: r).map clo) e.k = some (s'.map clo) → ¬ (e.k = 4 ∨ e.k = 6) → stp (a :: r) e.k = some s' →
        (if e.k = 3 ∨ e.k = 5 then (0, decide (e.k = 5)) :: bump cs else bump cs) = cs' →
        (∃ b, prd cs ((e :: t).take n) = some b ∧ ((b = true ∧ nEnd (a :: r) (e :: t) = some n) ∨ (b = false ∧ nEnd (a :: r) (e :: t) = none))) := by
      intro s' cs' hs' hc' hr hk hst hcs
      rw [hr] at h
      obtain ⟨a', r', rfl⟩ : ∃ a r, s' = a :: r := by cases s' with | nil => exact absurd rfl hs' | cons a r => exact ⟨a, r, rfl⟩
      simp only [List.map_cons] at h
      cases hm : rend (clo a' :: r'.map clo) t with
      | none => rw [hm] at h; cases h
      | some m =>
        rw [hm] at h
        simp at h
        subst h
        obtain ⟨b, hb, hor⟩ := ih (a' :: r') cs' m (by simp) hc' (by simpa using hm)
        refine ⟨b, ?_, ?_⟩
        · rw [List.take_succ_cons, prd_cons, if_neg hk, hcs]; exact hb
        · rw [nEnd, hst]
          rcases hor with ⟨h1, h2⟩ | ⟨h1, h2⟩
          · exact .inl ⟨h1, by simp only [h2]; rfl⟩
          · exact .inr ⟨h1, by simp only [h2]; rfl⟩
    by_cases hk78 : e.k = 7 ∨ e.k = 8
    · refine go ((bn a).1 :: r) (bump cs) (by simp) cb ?_ (by omega) ?_ (by rw [if_neg (by omega)])
      · unfold rstp; rw [if_pos hk78, List.map_cons, List.map_cons, clo_bn ha]
      · rw [stp_node (by omega) bb, if_neg (by omega), if_neg (by omega)]
    by_cases hk3 : e.k = 3
    · refine go (3 :: (bn a).1 :: r) ((0, false) :: bump cs) (by simp) ⟨.inl ⟨rfl, rfl⟩, cb⟩ ?_ (by omega) ?_ (by simp [hk3])
      · unfold rstp; rw [if_neg hk78, if_pos (by omega), List.map_cons, List.map_cons, List.map_cons, clo_bn ha, hk3]; rfl
      · rw [stp_node (by omega) bb, if_pos hk3]
    by_cases hk5 : e.k = 5
    · refine go (4 :: (bn a).1 :: r) ((0, true) :: bump cs) (by simp) ⟨.inr (.inl ⟨rfl, rfl, rfl⟩), cb⟩ ?_ (by omega) ?_ (by simp [hk5])
      · unfold rstp; rw [if_neg hk78, if_pos (by omega), List.map_cons, List.map_cons, List.map_cons, clo_bn ha, hk5]; rfl
      · rw [stp_node (by omega) bb, if_neg hk3, if_pos hk5]
    by_cases hk46 : e.k = 4 ∨ e.k = 6
    · unfold rstp at h
      rw [if_neg hk78, if_neg (by omega), if_pos hk46, List.map_cons] at h
      by_cases hcl : clo a = e.k
      · simp only [hcl, if_true] at h
        match cs, hc with
        | (c, m) :: cs, hc =>
          obtain ⟨h1, h2⟩ := hc
          by_cases hodd : m = true ∧ c % 2 = 1
          · have ha5 : a = 5 := by
              rcases h1 with ⟨rfl, rfl⟩ | ⟨rfl, rfl, hp⟩ | ⟨rfl, rfl, hp⟩
              · simp at hodd
              · omega
              · rfl
            subst ha5
            have hk6 : e.k = 6 := by rw [← hcl]; rfl
            have hn0 : 0 < n := by
              revert h
              cases r with
              | nil => simp; omega
              | cons b q => simp only [List.map_cons, Option.map_eq_some_iff]; rintro ⟨m, -, rfl⟩; omega
            obtain ⟨n', rfl⟩ : ∃ n', n = n' + 1 := ⟨n - 1, by omega⟩
            refine ⟨false, ?_, .inr ⟨rfl, ?_⟩⟩
            · rw [List.take_succ_cons, prd_cons, if_pos hk46]
              simp only [hodd, and_self, if_true]
            · rw [nEnd]
              have : stp (5 :: r) e.k = none := by rw [stp_cons, hk6]; rfl
              rw [this]
          · have hf : stp (a :: r) e.k = some r := by
              rw [stp_cons]
              unfold nxt
              have : (fol a e.k).2 = true := by
                rcases h1 with ⟨rfl, rfl⟩ | ⟨rfl, rfl, hp⟩ | ⟨rfl, rfl, hp⟩
                · rw [← hcl]; rfl
                · rw [← hcl]; rfl
                · exact absurd ⟨rfl, hp⟩ hodd
              rw [if_pos this, if_neg (by omega), if_neg (by omega), if_pos hk46]
            cases r with
            | nil =>
              simp at h
              subst h
              refine ⟨true, ?_, .inl ⟨rfl, ?_⟩⟩
              · rw [List.take_succ_cons, prd_cons, if_pos hk46]
                simp only [hodd, if_false]
                rfl
              · rw [nEnd, hf]
            | cons b q =>
              simp only [List.map_cons] at h
              cases hm : rend (clo b :: q.map clo) t with
              | none => rw [hm] at h; cases h
              | some m' =>
                rw [hm] at h
                simp at h
                subst h
                obtain ⟨b', hb, hor⟩ := ih (b :: q) cs m' (by simp) h2 (by simpa using hm)
                refine ⟨b', ?_, ?_⟩
                · rw [List.take_succ_cons, prd_cons, if_pos hk46]
                  simp only [hodd, if_false]
                  exact hb
                · rw [nEnd, hf]
                  rcases hor with ⟨g1, g2⟩ | ⟨g1, g2⟩
                  · exact .inl ⟨g1, by simp only [g2]; rfl⟩
                  · exact .inr ⟨g1, by simp only [g2]; rfl⟩
      · simp only [hcl, if_false] at h
        cases h
    · unfold rstp at h
      rw [if_neg hk78, if_neg (by omega), if_neg hk46] at h
      cases h
/-- What the program tells, the document's tells. -/
theorem back : ∀ (t : List Ev) (s : List Nat) (cs : List (Nat × Bool)), s ≠ [] → Cor s cs → rend (s.map clo) t = none → nEnd s t = none := by
  intro t
  induction t with
  | nil => intro s cs _ _ _; rfl
  | cons e t ih =>
    intro s cs hs hc h
    obtain ⟨a, r, rfl⟩ : ∃ a r, s = a :: r := by cases s with | nil => exact absurd rfl hs | cons a r => exact ⟨a, r, rfl⟩
    have ha := cor_in hc
    obtain ⟨cb, bb⟩ := cor_bump hc
    rw [rend] at h
    rw [nEnd]
    have go : ∀ (s' : List Nat) (cs' : List (Nat × Bool)), s' ≠ [] → Cor s' cs' → rstp ((a :: r).map clo) e.k = some (s'.map clo) → stp (a :: r) e.k = some s' →
        (match stp (a :: r) e.k with | none => none | some [] => some 1 | some (h :: r) => (nEnd (h :: r) t).map (· + 1)) = none := by
      intro s' cs' hs' hc' hr hst
      rw [hr] at h
      rw [hst]
      obtain ⟨a', r', rfl⟩ : ∃ a r, s' = a :: r := by cases s' with | nil => exact absurd rfl hs' | cons a r => exact ⟨a, r, rfl⟩
      simp only [List.map_cons] at h
      have := ih (a' :: r') cs' (by simp) hc' (by simpa using h)
      simp only [this]
      rfl
    by_cases hk78 : e.k = 7 ∨ e.k = 8
    · refine go ((bn a).1 :: r) (bump cs) (by simp) cb ?_ ?_
      · unfold rstp; rw [if_pos hk78, List.map_cons, List.map_cons, clo_bn ha]
      · rw [stp_node (by omega) bb, if_neg (by omega), if_neg (by omega)]
    by_cases hk3 : e.k = 3
    · refine go (3 :: (bn a).1 :: r) ((0, false) :: bump cs) (by simp) ⟨.inl ⟨rfl, rfl⟩, cb⟩ ?_ ?_
      · unfold rstp; rw [if_neg hk78, if_pos (by omega), List.map_cons, List.map_cons, List.map_cons, clo_bn ha, hk3]; rfl
      · rw [stp_node (by omega) bb, if_pos hk3]
    by_cases hk5 : e.k = 5
    · refine go (4 :: (bn a).1 :: r) ((0, true) :: bump cs) (by simp) ⟨.inr (.inl ⟨rfl, rfl, rfl⟩), cb⟩ ?_ ?_
      · unfold rstp; rw [if_neg hk78, if_pos (by omega), List.map_cons, List.map_cons, List.map_cons, clo_bn ha, hk5]; rfl
      · rw [stp_node (by omega) bb, if_neg hk3, if_pos hk5]
    by_cases hst : (fol a e.k).2 = true
    · rcases fol_in ha hst with ⟨hk, -⟩ | ⟨hk, rfl⟩ | ⟨hk, rfl⟩
      · omega
      · have e1 : rstp ((3 :: r).map clo) e.k = some (r.map clo) := by rw [hk]; rfl
        have e2 : stp (3 :: r) e.k = some r := by rw [hk]; rfl
        rw [e1] at h
        rw [e2]
        match cs, hc with
        | (c, m) :: cs, hc =>
          cases r with
          | nil => cases h
          | cons b q =>
            simp only [List.map_cons] at h
            have := ih (b :: q) cs (by simp) hc.2 (by simpa using h)
            simp only [this]
            rfl
      · have e1 : rstp ((4 :: r).map clo) e.k = some (r.map clo) := by rw [hk]; rfl
        have e2 : stp (4 :: r) e.k = some r := by rw [hk]; rfl
        rw [e1] at h
        rw [e2]
        match cs, hc with
        | (c, m) :: cs, hc =>
          cases r with
          | nil => cases h
          | cons b q =>
            simp only [List.map_cons] at h
            have := ih (b :: q) cs (by simp) hc.2 (by simpa using h)
            simp only [this]
            rfl
    · have : stp (a :: r) e.k = none := by rw [stp_cons, if_neg hst]
      rw [this]
theorem rnode_eq (t : List Ev) : rnode t = node t := by
  unfold rnode
  cases t with
  | nil => rfl
  | cons e t =>
    rw [rend]
    rw [node_cons]
    by_cases hk78 : e.k = 7 ∨ e.k = 8
    · have : rstp [] e.k = some [] := by unfold rstp; rw [if_pos hk78]
      rw [this, if_pos hk78]
      have : prd [] ((e :: t).take 1) = some true := by rw [List.take_succ_cons, List.take_zero, prd_cons, if_neg (by omega), if_neg (by omega)]; rfl
      simp only [this]
    rw [if_neg hk78]
    have go : ∀ (h : Nat), h = 3 ∨ h = 4 → rstp [] e.k = some [clo h] → ¬ (e.k = 4 ∨ e.k = 6) → (if e.k = 3 ∨ e.k = 5 then (0, decide (e.k = 5)) :: bump [] else bump []) = [(0, decide (h = 4))] →
        (match (match rstp [] e.k with | none => none | some [] => some 1 | some (c :: r) => (rend (c :: r) t).map (· + 1)) with
          | none => none | some n => (match prd [] ((e :: t).take n) with | some true => some n | _ => none)) = (nEnd [h] t).map (· + 1) := by
      intro h hh hr hk hcs
      have hc : Cor [h] [(0, decide (h = 4))] := by
        rcases hh with rfl | rfl
        · exact ⟨.inl ⟨rfl, rfl⟩, trivial⟩
        · exact ⟨.inr (.inl ⟨rfl, rfl, rfl⟩), trivial⟩
      rw [hr]
      simp only
      cases hm : rend [clo h] t with
      | none => rw [back t [h] _ (by simp) hc (by simpa using hm)]; rfl
      | some n =>
        obtain ⟨b, hb, hor⟩ := side t [h] _ n (by simp) hc (by simpa using hm)
        have hp : prd [] ((e :: t).take (n + 1)) = some b := by rw [List.take_succ_cons, prd_cons, if_neg hk, hcs, hb]
        simp only [Option.map_some, hp]
        rcases hor with ⟨rfl, h2⟩ | ⟨rfl, h2⟩
        · rw [h2]; rfl
        · rw [h2]; rfl
    by_cases hk3 : e.k = 3
    · rw [if_pos hk3]
      exact go 3 (.inl rfl) (by rw [hk3]; rfl) (by omega) (by rw [hk3]; rfl)
    rw [if_neg hk3]
    by_cases hk5 : e.k = 5
    · rw [if_pos hk5]
      exact go 4 (.inr rfl) (by rw [hk5]; rfl) (by omega) (by rw [hk5]; rfl)
    rw [if_neg hk5]
    have : rstp [] e.k = none := by
      unfold rstp
      rw [if_neg hk78, if_neg (by omega)]
      split
      · rfl
      · rfl
    rw [this]
theorem rendP_eq (l : List Ev) (i : Nat) : rendP l i = endP l i := by unfold rendP; rw [endP_eq, rnode_eq]
/-- Where the document's End looks whether mappings are even, no end stands without a beginning. -/
theorem prd_some {t : List Ev} {n : Nat} (h : rend [] t = some n) : ∃ b, prd [] (t.take n) = some b := by
  cases t with
  | nil => cases h
  | cons e t =>
    rw [rend] at h
    by_cases hk78 : e.k = 7 ∨ e.k = 8
    · have : rstp [] e.k = some [] := by unfold rstp; rw [if_pos hk78]
      rw [this] at h
      cases h
      refine ⟨true, ?_⟩
      simp only [List.take_succ_cons, List.take_zero]
      rw [prd_cons, if_neg (by omega), if_neg (by omega)]; rfl
    have go : ∀ (h' : Nat), h' = 3 ∨ h' = 4 → rstp [] e.k = some [clo h'] → ¬ (e.k = 4 ∨ e.k = 6) → (if e.k = 3 ∨ e.k = 5 then (0, decide (e.k = 5)) :: bump [] else bump []) = [(0, decide (h' = 4))] →
        ∃ b, prd [] ((e :: t).take n) = some b := by
      intro h' hh hr hk hcs
      have hc : Cor [h'] [(0, decide (h' = 4))] := by
        rcases hh with rfl | rfl
        · exact ⟨.inl ⟨rfl, rfl⟩, trivial⟩
        · exact ⟨.inr (.inl ⟨rfl, rfl, rfl⟩), trivial⟩
      rw [hr] at h
      simp only at h
      cases hm : rend [clo h'] t with
      | none => rw [hm] at h; cases h
      | some m =>
        rw [hm] at h
        simp at h
        subst h
        obtain ⟨b, hb, -⟩ := side t [h'] _ m (by simp) hc (by simpa using hm)
        refine ⟨b, ?_⟩
        rw [List.take_succ_cons, prd_cons, if_neg hk, hcs, hb]
    by_cases hk3 : e.k = 3
    · exact go 3 (.inl rfl) (by rw [hk3]; rfl) (by omega) (by rw [hk3]; rfl)
    by_cases hk5 : e.k = 5
    · exact go 4 (.inr rfl) (by rw [hk5]; rfl) (by omega) (by rw [hk5]; rfl)
    have : rstp [] e.k = none := by
      unfold rstp
      rw [if_neg hk78, if_neg (by omega)]
      split
      · rfl
      · rfl
    rw [this] at h
    cases h
end Go.Proofs.Ytgmenlcngdphhaa
