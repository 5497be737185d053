/- Rows of events in plain terms: what the program looks at, and what the document's own functions look at. -/
import Derived.Test.YteeanpfhngoobaaGreatZYls
set_option linter.unusedVariables false
set_option linter.unusedSimpArgs false
namespace Go.Proofs.YteeanpfhngoobaaGreat

/-- An event. -/
structure Ev where
  k : Int
  tx : ByteArray
  tg : ByteArray
  an : ByteArray
  st : Int
  fl : Bool

def bn (h : Nat) : Nat × Bool := if h = 1 then (2, true) else if h = 3 then (3, true) else if h = 4 then (5, true) else if h = 5 then (4, true) else (h, false)
/-- What a place becomes by an event of this kind, and whether one may stand there. -/
def fol (h : Nat) (k : Int) : Nat × Bool :=
  if k = 1 then (1, decide (h = 0)) else if k = 2 then (0, decide (h = 2)) else if k = 4 then (h, decide (h = 3)) else if k = 6 then (h, decide (h = 4))
  else if k = 7 ∨ k = 8 ∨ k = 3 ∨ k = 5 then bn h else (h, false)
/-- The places around, the innermost first, behind an event that may stand there. -/
def nxt (h : Nat) (r : List Nat) (k : Int) : List Nat :=
  if k = 3 then 3 :: (fol h k).1 :: r else if k = 5 then 4 :: (fol h k).1 :: r else if k = 4 ∨ k = 6 then r else (fol h k).1 :: r
def stp : List Nat → Int → Option (List Nat)
  | [], _ => none
  | h :: r, k => if (fol h k).2 then some (nxt h r k) else none
theorem stp_cons (h : Nat) (r : List Nat) (k : Int) : stp (h :: r) k = if (fol h k).2 then some (nxt h r k) else none := rfl
/-- The events that are told, each with its depth. -/
def told : List Nat → List Ev → List (Ev × Nat)
  | _, [] => []
  | s, e :: t => match stp s e.k with
    | none => []
    | some s' => (e, s'.length - 1) :: told s' t
/-- The places around behind the whole row. -/
def rn : List Nat → List Ev → Option (List Nat)
  | s, [] => some s
  | s, e :: t => match stp s e.k with
    | none => none
    | some s' => rn s' t
def cleanP (x : Ev) : Bool :=
  if x.k = 1 ∨ x.k = 2 then decide (x.tx.toList = [] ∧ x.tg.toList = [] ∧ x.an.toList = [] ∧ x.st = 0)
  else if x.k = 3 ∨ x.k = 5 then decide (x.tx.toList = [] ∧ x.st = 0)
  else if x.k = 4 ∨ x.k = 6 then decide (x.tx.toList = [] ∧ x.tg.toList = [] ∧ x.an.toList = [] ∧ x.st = 0 ∧ x.fl = false)
  else if x.k = 7 then decide (x.fl = false ∧ 1 ≤ x.st ∧ x.st ≤ 5)
  else if x.k = 8 then decide (x.tx.toList = [] ∧ x.tg.toList = [] ∧ x.st = 0 ∧ x.fl = false ∧ x.an.toList ≠ [])
  else false
def lastK : List Ev → Int
  | [] => 0
  | [e] => e.k
  | _ :: e :: t => lastK (e :: t)
def rightP (l : List Ev) : Bool := (told [0] l).all (fun x => cleanP x.1) && decide ((told [0] l).length = l.length ∧ (l = [] ∨ lastK l = 2))
def maxD : List (Ev × Nat) → Nat → Nat
  | [], m => m
  | x :: t, m => maxD t (max m x.2)
def depthP (l : List Ev) : Nat := if rightP l then maxD (told [0] l) 0 else 0
def nodesP (l : List Ev) : Nat := l.countP fun e => decide (e.k = 7 ∨ e.k = 3 ∨ e.k = 5)
/-- How many are told up to the first of depth 0. -/
def fst0 : List (Ev × Nat) → Option Nat
  | [] => none
  | x :: t => if x.2 = 0 then some 1 else (fst0 t).map (· + 1)
def upto (i : Nat) : Option Nat → Nat
  | none => i
  | some n => i + n
def endP (l : List Ev) (i : Nat) : Nat := upto i (fst0 (told [1] (l.drop i)))

-- the document's own
def rstp (o : List Int) (k : Int) : Option (List Int) :=
  if k = 7 ∨ k = 8 then some o else if k = 3 ∨ k = 5 then some ((k + 1) :: o) else if k = 4 ∨ k = 6 then (match o with | [] => none | c :: r => if c = k then some r else none) else none
/-- How many events there are up to where nothing is open. -/
def rend : List Int → List Ev → Option Nat
  | _, [] => none
  | o, e :: t => match rstp o e.k with
    | none => none
    | some [] => some 1
    | some (c :: r) => (rend (c :: r) t).map (· + 1)
def bump : List (Nat × Bool) → List (Nat × Bool)
  | [] => []
  | (c, m) :: r => (c + 1, m) :: r
/-- Has each mapping an even number of nodes? none: an end of nothing. -/
def prd : List (Nat × Bool) → List Ev → Option Bool
  | _, [] => some true
  | cs, e :: t => if e.k = 4 ∨ e.k = 6 then (match cs with | [] => none | (c, m) :: r => if m = true ∧ c % 2 = 1 then some false else prd r t)
    else prd (if e.k = 3 ∨ e.k = 5 then (0, decide (e.k = 5)) :: bump cs else bump cs) t
theorem prd_cons (cs : List (Nat × Bool)) (e : Ev) (t : List Ev) : prd cs (e :: t) = if e.k = 4 ∨ e.k = 6 then (match cs with | [] => none | (c, m) :: r => if m = true ∧ c % 2 = 1 then some false else prd r t)
    else prd (if e.k = 3 ∨ e.k = 5 then (0, decide (e.k = 5)) :: bump cs else bump cs) t := by rw [prd.eq_def]
def rnode (t : List Ev) : Option Nat := match rend [] t with
  | none => none
  | some n => (match prd [] (t.take n) with | some true => some n | _ => none)
def rendP (l : List Ev) (i : Nat) : Nat := upto i (rnode (l.drop i))
def rcleanP (x : Ev) : Bool :=
  !((decide (x.k ≠ 7) && (decide (x.tx.toList ≠ []) || decide (x.st ≠ 0))) || (decide (x.k = 7) && (decide (x.st < 1) || decide (5 < x.st)))) &&
  !((!(decide (x.k = 7 ∨ x.k = 3 ∨ x.k = 5)) && decide (x.tg.toList ≠ [])) || (!(decide (x.k = 7 ∨ x.k = 3 ∨ x.k = 5)) && decide (x.k ≠ 8) && decide (x.an.toList ≠ [])) || (decide (x.k = 8) && decide (x.an.toList = []))) &&
  (decide (x.k = 1 ∨ x.k = 2 ∨ x.k = 3 ∨ x.k = 5) || !x.fl)
def docsF : Nat → List Ev → Bool
  | 0, _ => true
  | f + 1, [] => true
  | f + 1, e :: t => decide (e.k = 1) && match rnode t with
    | none => false
    | some n => match t.drop n with
      | [] => false
      | d :: u => decide (d.k = 2) && docsF f u
def rrightP (l : List Ev) : Bool := l.all rcleanP && docsF (l.length + 1) l
def rdep : Int → Int → List Ev → Int
  | n, m, [] => m
  | n, m, e :: t =>
    let n' := if e.k = 3 ∨ e.k = 5 then n + 1 else if e.k = 4 ∨ e.k = 6 then n - 1 else n
    rdep n' (if n' > m then n' else m) t
def rdepthP (l : List Ev) : Int := if rrightP l then rdep 0 0 l else 0

-- nodes, where what lies around does not matter
/-- How many events there are up to where all of s is closed. -/
def nEnd : List Nat → List Ev → Option Nat
  | _, [] => none
  | s, e :: t => match stp s e.k with
    | none => none
    | some [] => some 1
    | some (h :: r) => (nEnd (h :: r) t).map (· + 1)
def node : List Ev → Option Nat
  | [] => none
  | e :: t => if e.k = 7 ∨ e.k = 8 then some 1 else if e.k = 3 then (nEnd [3] t).map (· + 1) else if e.k = 5 then (nEnd [4] t).map (· + 1) else none
theorem node_cons (e : Ev) (t : List Ev) : node (e :: t) = if e.k = 7 ∨ e.k = 8 then some 1 else if e.k = 3 then (nEnd [3] t).map (· + 1) else if e.k = 5 then (nEnd [4] t).map (· + 1) else none := rfl
def In (s : List Nat) : Prop := ∀ h ∈ s, h = 3 ∨ h = 4 ∨ h = 5

/-- The kinds that may stand in a collection. -/
theorem fol_in {h : Nat} {k : Int} (hh : h = 3 ∨ h = 4 ∨ h = 5) (hf : (fol h k).2 = true) :
    ((k = 7 ∨ k = 8 ∨ k = 3 ∨ k = 5) ∧ fol h k = bn h) ∨ (k = 4 ∧ h = 3) ∨ (k = 6 ∧ h = 4) := by
  unfold fol at hf
  by_cases h1 : k = 1
  · rw [if_pos h1] at hf; simp at hf; omega
  by_cases h2 : k = 2
  · rw [if_neg h1, if_pos h2] at hf; simp at hf; omega
  by_cases h4 : k = 4
  · rw [if_neg h1, if_neg h2, if_pos h4] at hf; simp at hf; exact .inr (.inl ⟨h4, hf⟩)
  by_cases h6 : k = 6
  · rw [if_neg h1, if_neg h2, if_neg h4, if_pos h6] at hf; simp at hf; exact .inr (.inr ⟨h6, hf⟩)
  by_cases h7 : k = 7 ∨ k = 8 ∨ k = 3 ∨ k = 5
  · exact .inl ⟨h7, by unfold fol; rw [if_neg h1, if_neg h2, if_neg h4, if_neg h6, if_pos h7]⟩
  · rw [if_neg h1, if_neg h2, if_neg h4, if_neg h6, if_neg h7] at hf; simp at hf
theorem fol_node {h : Nat} {k : Int} (hk : k = 7 ∨ k = 8 ∨ k = 3 ∨ k = 5) : fol h k = bn h := by
  unfold fol; rw [if_neg (by omega), if_neg (by omega), if_neg (by omega), if_neg (by omega), if_pos hk]
theorem bn_in {h : Nat} (hh : h = 3 ∨ h = 4 ∨ h = 5) : (bn h).2 = true ∧ ((bn h).1 = 3 ∨ (bn h).1 = 4 ∨ (bn h).1 = 5) := by
  rcases hh with rfl | rfl | rfl <;> simp [bn]

theorem stp_in {s s' : List Nat} {k : Int} (hs : In s) (h : stp s k = some s') : In s' := by
  cases s with
  | nil => cases h
  | cons a r =>
    have ha := hs a (by simp)
    have hr : In r := fun x hx => hs x (by simp [hx])
    rw [stp_cons] at h
    split at h
    · rename_i hf
      cases h
      have hb := (bn_in ha).2
      unfold nxt
      rcases fol_in ha hf with ⟨hk, e⟩ | ⟨hk, e⟩ | ⟨hk, e⟩
      · rw [e]
        split
        · intro x hx; simp at hx; rcases hx with rfl | rfl | hx
          · simp
          · exact hb
          · exact hr x hx
        · split
          · intro x hx; simp at hx; rcases hx with rfl | rfl | hx
            · simp
            · exact hb
            · exact hr x hx
          · rw [if_neg (by omega)]
            intro x hx; simp at hx; rcases hx with rfl | hx
            · exact hb
            · exact hr x hx
      · rw [if_neg (by omega), if_neg (by omega), if_pos (by omega)]; exact hr
      · rw [if_neg (by omega), if_neg (by omega), if_pos (by omega)]; exact hr
    · cases h
theorem stp_app {s s' : List Nat} {k : Int} (r : List Nat) (h : stp s k = some s') : stp (s ++ r) k = some (s' ++ r) := by
  cases s with
  | nil => cases h
  | cons a q =>
    rw [stp_cons] at h
    rw [List.cons_append, stp_cons]
    split at h
    · rename_i hf
      cases h
      simp only [hf, if_true, nxt]
      congr 1
      split
      · rfl
      · split
        · rfl
        · split <;> rfl
    · cases h
theorem stp_app_none {s : List Nat} {k : Int} (r : List Nat) (hs : s ≠ []) (h : stp s k = none) : stp (s ++ r) k = none := by
  cases s with
  | nil => exact absurd rfl hs
  | cons a q =>
    rw [stp_cons] at h
    rw [List.cons_append, stp_cons]
    split at h
    · cases h
    · rename_i hf
      simp only [hf, if_false]
      rfl

/-- The first of depth 0, above one place. -/
theorem fst_nEnd : ∀ (t : List Ev) (s : List Nat) (x : Nat), s ≠ [] → fst0 (told (s ++ [x]) t) = nEnd s t := by
  intro t
  induction t with
  | nil => intro s x _; rfl
  | cons e t ih =>
    intro s x hs
    cases hst : stp s e.k with
    | none => rw [told, nEnd, hst, stp_app_none [x] hs hst]; rfl
    | some s' =>
      rw [told, nEnd, hst, stp_app [x] hst]
      simp only [fst0]
      cases s' with
      | nil => simp
      | cons a r =>
        have : ¬ (a :: r ++ [x]).length - 1 = 0 := by simp
        rw [if_neg this, ih (a :: r) x (by simp)]
theorem stp_node {h : Nat} {r : List Nat} {k : Int} (hk : k = 7 ∨ k = 8 ∨ k = 3 ∨ k = 5) (hb : (bn h).2 = true) : stp (h :: r) k = some (if k = 3 then 3 :: (bn h).1 :: r else if k = 5 then 4 :: (bn h).1 :: r else (bn h).1 :: r) := by
  rw [stp_cons]
  unfold nxt
  rw [fol_node hk, if_pos hb]
  congr 1
  split
  · rfl
  · split
    · rfl
    · rw [if_neg (by omega)]
theorem fst_node (t : List Ev) : fst0 (told [1] t) = node t := by
  cases t with
  | nil => rfl
  | cons e t =>
    rw [node_cons]
    by_cases hk : e.k = 7 ∨ e.k = 8 ∨ e.k = 3 ∨ e.k = 5
    · rw [told, stp_node hk rfl]
      by_cases h3 : e.k = 3
      · have := fst_nEnd t [3] 2 (by simp)
        rw [List.singleton_append] at this
        rw [if_pos h3, if_neg (show ¬ (e.k = 7 ∨ e.k = 8) by omega), if_pos h3, ← this]
        rfl
      · by_cases h5 : e.k = 5
        · have := fst_nEnd t [4] 2 (by simp)
          rw [List.singleton_append] at this
          rw [if_neg h3, if_pos h5, if_neg (show ¬ (e.k = 7 ∨ e.k = 8) by omega), if_neg h3, if_pos h5, ← this]
          rfl
        · rw [if_neg h3, if_neg h5, if_pos (show e.k = 7 ∨ e.k = 8 by omega)]
          rfl
    · rw [if_neg (by omega), if_neg (by omega), if_neg (by omega), told]
      have : stp [1] e.k = none := by
        rw [stp_cons]
        unfold fol
        by_cases h1 : e.k = 1
        · simp [h1]
        · by_cases h2 : e.k = 2
          · simp [h2]
          · by_cases h4 : e.k = 4
            · simp [h4]
            · by_cases h6 : e.k = 6
              · simp [h6]
              · rw [if_neg h1, if_neg h2, if_neg h4, if_neg h6, if_neg hk]; rfl
      rw [this]
      rfl
theorem endP_eq (l : List Ev) (i : Nat) : endP l i = upto i (node (l.drop i)) := by unfold endP; rw [fst_node]

-- the document's
def clo (h : Nat) : Int := if h = 3 then 4 else 6
def Cor : List Nat → List (Nat × Bool) → Prop
  | [], [] => True
  | h :: s, (c, m) :: cs => ((h = 3 ∧ m = false) ∨ (h = 4 ∧ m = true ∧ c % 2 = 0) ∨ (h = 5 ∧ m = true ∧ c % 2 = 1)) ∧ Cor s cs
  | _, _ => False
theorem cor_bump {h : Nat} {r : List Nat} {cs : List (Nat × Bool)} (hc : Cor (h :: r) cs) : Cor ((bn h).1 :: r) (bump cs) ∧ (bn h).2 = true := by
  match cs, hc with
  | (c, m) :: cs, hc =>
    obtain ⟨h1, h2⟩ := hc
    unfold bump Cor
    rcases h1 with ⟨rfl, rfl⟩ | ⟨rfl, rfl, hp⟩ | ⟨rfl, rfl, hp⟩
    · exact ⟨⟨.inl ⟨rfl, rfl⟩, h2⟩, rfl⟩
    · exact ⟨⟨.inr (.inr ⟨rfl, rfl, by omega⟩), h2⟩, rfl⟩
    · exact ⟨⟨.inr (.inl ⟨rfl, rfl, by omega⟩), h2⟩, rfl⟩
theorem clo_bn {h : Nat} (hh : h = 3 ∨ h = 4 ∨ h = 5) : clo (bn h).1 = clo h := by rcases hh with rfl | rfl | rfl <;> rfl
theorem cor_in {h : Nat} {r : List Nat} {cs : List (Nat × Bool)} (hc : Cor (h :: r) cs) : h = 3 ∨ h = 4 ∨ h = 5 := by
  match cs, hc with
  | (c, m) :: cs, hc => rcases hc.1 with ⟨h1, -⟩ | ⟨h1, -⟩ | ⟨h1, -⟩ <;> omega

/-- A run of the document's and the program's, side by side. -/
theorem side : ∀ (t : List Ev) (s : List Nat) (cs : List (Nat × Bool)) (n : Nat), s ≠ [] → Cor s cs → rend (s.map clo) t = some n →
    (∃ b, prd cs (t.take n) = some b ∧ ((b = true ∧ nEnd s t = some n) ∨ (b = false ∧ nEnd s t = none))) := by
  intro t
  induction t with
  | nil => intro s cs n _ _ h; cases h
  | cons e t ih =>
    intro s cs n hs hc h
    obtain ⟨a, r, rfl⟩ : ∃ a r, s = a :: r := by cases s with | nil => exact absurd rfl hs | cons a r => exact ⟨a, r, rfl⟩
    have ha := cor_in hc
    obtain ⟨cb, bb⟩ := cor_bump hc
    rw [rend] at h
    -- what is pushed or stays
    have go : ∀ (s' : List Nat) (cs' : List (Nat × Bool)), s' ≠ [] → Cor s' cs' → rstp ((a :: r).map clo) e.k = some (s'.map clo) → ¬ (e.k = 4 ∨ e.k = 6) → stp (a :: r) e.k = some s' →
        (if e.k = 3 ∨ e.k = 5 then (0, decide (e.k = 5)) :: bump cs else bump cs) = cs' →
        (∃ b, prd cs ((e :: t).take n) = some b ∧ ((b = true ∧ nEnd (a :: r) (e :: t) = some n) ∨ (b = false ∧ nEnd (a :: r) (e :: t) = none))) := by
      intro s' cs' hs' hc' hr hk hst hcs
      rw [hr] at h
      obtain ⟨a', r', rfl⟩ : ∃ a r, s' = a :: r := by cases s' with | nil => exact absurd rfl hs' | cons a r => exact ⟨a, r, rfl⟩
      simp only [List.map_cons] at h
      cases hm : rend (clo a' :: r'.map clo) t with
      | none => rw [hm] at h; cases h
      | some m =>
        rw [hm] at h
        simp at h
        subst h
        obtain ⟨b, hb, hor⟩ := ih (a' :: r') cs' m (by simp) hc' (by simpa using hm)
        refine ⟨b, ?_, ?_⟩
        · rw [List.take_succ_cons, prd_cons, if_neg hk, hcs]; exact hb
        · rw [nEnd, hst]
          rcases hor with ⟨h1, h2⟩ | ⟨h1, h2⟩
          · exact .inl ⟨h1, by simp only [h2]; rfl⟩
          · exact .inr ⟨h1, by simp only [h2]; rfl⟩
    by_cases hk78 : e.k = 7 ∨ e.k = 8
    · refine go ((bn a).1 :: r) (bump cs) (by simp) cb ?_ (by omega) ?_ (by rw [if_neg (by omega)])
      · unfold rstp; rw [if_pos hk78, List.map_cons, List.map_cons, clo_bn ha]
      · rw [stp_node (by omega) bb, if_neg (by omega), if_neg (by omega)]
    by_cases hk3 : e.k = 3
    · refine go (3 :: (bn a).1 :: r) ((0, false) :: bump cs) (by simp) ⟨.inl ⟨rfl, rfl⟩, cb⟩ ?_ (by omega) ?_ (by simp [hk3])
      · unfold rstp; rw [if_neg hk78, if_pos (by omega), List.map_cons, List.map_cons, List.map_cons, clo_bn ha, hk3]; rfl
      · rw [stp_node (by omega) bb, if_pos hk3]
    by_cases hk5 : e.k = 5
    · refine go (4 :: (bn a).1 :: r) ((0, true) :: bump cs) (by simp) ⟨.inr (.inl ⟨rfl, rfl, rfl⟩), cb⟩ ?_ (by omega) ?_ (by simp [hk5])
      · unfold rstp; rw [if_neg hk78, if_pos (by omega), List.map_cons, List.map_cons, List.map_cons, clo_bn ha, hk5]; rfl
      · rw [stp_node (by omega) bb, if_neg hk3, if_pos hk5]
    by_cases hk46 : e.k = 4 ∨ e.k = 6
    · unfold rstp at h
      rw [if_neg hk78, if_neg (by omega), if_pos hk46, List.map_cons] at h
      by_cases hcl : clo a = e.k
      · simp only [hcl, if_true] at h
        match cs, hc with
        | (c, m) :: cs, hc =>
          obtain ⟨h1, h2⟩ := hc
          by_cases hodd : m = true ∧ c % 2 = 1
          · have ha5 : a = 5 := by
              rcases h1 with ⟨rfl, rfl⟩ | ⟨rfl, rfl, hp⟩ | ⟨rfl, rfl, hp⟩
              · simp at hodd
              · omega
              · rfl
            subst ha5
            have hk6 : e.k = 6 := by rw [← hcl]; rfl
            have hn0 : 0 < n := by
              revert h
              cases r with
              | nil => simp; omega
              | cons b q => simp only [List.map_cons, Option.map_eq_some_iff]; rintro ⟨m, -, rfl⟩; omega
            obtain ⟨n', rfl⟩ : ∃ n', n = n' + 1 := ⟨n - 1, by omega⟩
            refine ⟨false, ?_, .inr ⟨rfl, ?_⟩⟩
            · rw [List.take_succ_cons, prd_cons, if_pos hk46]
              simp only [hodd, and_self, if_true]
            · rw [nEnd]
              have : stp (5 :: r) e.k = none := by rw [stp_cons, hk6]; rfl
              rw [this]
          · have hf : stp (a :: r) e.k = some r := by
              rw [stp_cons]
              unfold nxt
              have : (fol a e.k).2 = true := by
                rcases h1 with ⟨rfl, rfl⟩ | ⟨rfl, rfl, hp⟩ | ⟨rfl, rfl, hp⟩
                · rw [← hcl]; rfl
                · rw [← hcl]; rfl
                · exact absurd ⟨rfl, hp⟩ hodd
              rw [if_pos this, if_neg (by omega), if_neg (by omega), if_pos hk46]
            cases r with
            | nil =>
              simp at h
              subst h
              refine ⟨true, ?_, .inl ⟨rfl, ?_⟩⟩
              · rw [List.take_succ_cons, prd_cons, if_pos hk46]
                simp only [hodd, if_false]
                rfl
              · rw [nEnd, hf]
            | cons b q =>
              simp only [List.map_cons] at h
              cases hm : rend (clo b :: q.map clo) t with
              | none => rw [hm] at h; cases h
              | some m' =>
                rw [hm] at h
                simp at h
                subst h
                obtain ⟨b', hb, hor⟩ := ih (b :: q) cs m' (by simp) h2 (by simpa using hm)
                refine ⟨b', ?_, ?_⟩
                · rw [List.take_succ_cons, prd_cons, if_pos hk46]
                  simp only [hodd, if_false]
                  exact hb
                · rw [nEnd, hf]
                  rcases hor with ⟨g1, g2⟩ | ⟨g1, g2⟩
                  · exact .inl ⟨g1, by simp only [g2]; rfl⟩
                  · exact .inr ⟨g1, by simp only [g2]; rfl⟩
      · simp only [hcl, if_false] at h
        cases h
    · unfold rstp at h
      rw [if_neg hk78, if_neg (by omega), if_neg hk46] at h
      cases h
/-- What the program tells, the document's tells. -/
theorem back : ∀ (t : List Ev) (s : List Nat) (cs : List (Nat × Bool)), s ≠ [] → Cor s cs → rend (s.map clo) t = none → nEnd s t = none := by
  intro t
  induction t with
  | nil => intro s cs _ _ _; rfl
  | cons e t ih =>
    intro s cs hs hc h
    obtain ⟨a, r, rfl⟩ : ∃ a r, s = a :: r := by cases s with | nil => exact absurd rfl hs | cons a r => exact ⟨a, r, rfl⟩
    have ha := cor_in hc
    obtain ⟨cb, bb⟩ := cor_bump hc
    rw [rend] at h
    rw [nEnd]
    have go : ∀ (s' : List Nat) (cs' : List (Nat × Bool)), s' ≠ [] → Cor s' cs' → rstp ((a :: r).map clo) e.k = some (s'.map clo) → stp (a :: r) e.k = some s' →
        (match stp (a :: r) e.k with | none => none | some [] => some 1 | some (h :: r) => (nEnd (h :: r) t).map (· + 1)) = none := by
      intro s' cs' hs' hc' hr hst
      rw [hr] at h
      rw [hst]
      obtain ⟨a', r', rfl⟩ : ∃ a r, s' = a :: r := by cases s' with | nil => exact absurd rfl hs' | cons a r => exact ⟨a, r, rfl⟩
      simp only [List.map_cons] at h
      have := ih (a' :: r') cs' (by simp) hc' (by simpa using h)
      simp only [this]
      rfl
    by_cases hk78 : e.k = 7 ∨ e.k = 8
    · refine go ((bn a).1 :: r) (bump cs) (by simp) cb ?_ ?_
      · unfold rstp; rw [if_pos hk78, List.map_cons, List.map_cons, clo_bn ha]
      · rw [stp_node (by omega) bb, if_neg (by omega), if_neg (by omega)]
    by_cases hk3 : e.k = 3
    · refine go (3 :: (bn a).1 :: r) ((0, false) :: bump cs) (by simp) ⟨.inl ⟨rfl, rfl⟩, cb⟩ ?_ ?_
      · unfold rstp; rw [if_neg hk78, if_pos (by omega), List.map_cons, List.map_cons, List.map_cons, clo_bn ha, hk3]; rfl
      · rw [stp_node (by omega) bb, if_pos hk3]
    by_cases hk5 : e.k = 5
    · refine go (4 :: (bn a).1 :: r) ((0, true) :: bump cs) (by simp) ⟨.inr (.inl ⟨rfl, rfl, rfl⟩), cb⟩ ?_ ?_
      · unfold rstp; rw [if_neg hk78, if_pos (by omega), List.map_cons, List.map_cons, List.map_cons, clo_bn ha, hk5]; rfl
      · rw [stp_node (by omega) bb, if_neg hk3, if_pos hk5]
    by_cases hst : (fol a e.k).2 = true
    · rcases fol_in ha hst with ⟨hk, -⟩ | ⟨hk, rfl⟩ | ⟨hk, rfl⟩
      · omega
      · have e1 : rstp ((3 :: r).map clo) e.k = some (r.map clo) := by rw [hk]; rfl
        have e2 : stp (3 :: r) e.k = some r := by rw [hk]; rfl
        rw [e1] at h
        rw [e2]
        match cs, hc with
        | (c, m) :: cs, hc =>
          cases r with
          | nil => cases h
          | cons b q =>
            simp only [List.map_cons] at h
            have := ih (b :: q) cs (by simp) hc.2 (by simpa using h)
            simp only [this]
            rfl
      · have e1 : rstp ((4 :: r).map clo) e.k = some (r.map clo) := by rw [hk]; rfl
        have e2 : stp (4 :: r) e.k = some r := by rw [hk]; rfl
        rw [e1] at h
        rw [e2]
        match cs, hc with
        | (c, m) :: cs, hc =>
          cases r with
          | nil => cases h
          | cons b q =>
            simp only [List.map_cons] at h
            have := ih (b :: q) cs (by simp) hc.2 (by simpa using h)
            simp only [this]
            rfl
    · have : stp (a :: r) e.k = none := by rw [stp_cons, if_neg hst]
      rw [this]
theorem rnode_eq (t : List Ev) : rnode t = node t := by
  unfold rnode
  cases t with
  | nil => rfl
  | cons e t =>
    rw [rend]
    rw [node_cons]
    by_cases hk78 : e.k = 7 ∨ e.k = 8
    · have : rstp [] e.k = some [] := by unfold rstp; rw [if_pos hk78]
      rw [this, if_pos hk78]
      have : prd [] ((e :: t).take 1) = some true := by rw [List.take_succ_cons, List.take_zero, prd_cons, if_neg (by omega), if_neg (by omega)]; rfl
      simp only [this]
    rw [if_neg hk78]
    have go : ∀ (h : Nat), h = 3 ∨ h = 4 → rstp [] e.k = some [clo h] → ¬ (e.k = 4 ∨ e.k = 6) → (if e.k = 3 ∨ e.k = 5 then (0, decide (e.k = 5)) :: bump [] else bump []) = [(0, decide (h = 4))] →
        (match (match rstp [] e.k with | none => none | some [] => some 1 | some (c :: r) => (rend (c :: r) t).map (· + 1)) with
          | none => none | some n => (match prd [] ((e :: t).take n) with | some true => some n | _ => none)) = (nEnd [h] t).map (· + 1) := by
      intro h hh hr hk hcs
      have hc : Cor [h] [(0, decide (h = 4))] := by
        rcases hh with rfl | rfl
        · exact ⟨.inl ⟨rfl, rfl⟩, trivial⟩
        · exact ⟨.inr (.inl ⟨rfl, rfl, rfl⟩), trivial⟩
      rw [hr]
      simp only
      cases hm : rend [clo h] t with
      | none => rw [back t [h] _ (by simp) hc (by simpa using hm)]; rfl
      | some n =>
        obtain ⟨b, hb, hor⟩ := side t [h] _ n (by simp) hc (by simpa using hm)
        have hp : prd [] ((e :: t).take (n + 1)) = some b := by rw [List.take_succ_cons, prd_cons, if_neg hk, hcs, hb]
        simp only [Option.map_some, hp]
        rcases hor with ⟨rfl, h2⟩ | ⟨rfl, h2⟩
        · rw [h2]; rfl
        · rw [h2]; rfl
    by_cases hk3 : e.k = 3
    · rw [if_pos hk3]
      exact go 3 (.inl rfl) (by rw [hk3]; rfl) (by omega) (by rw [hk3]; rfl)
    rw [if_neg hk3]
    by_cases hk5 : e.k = 5
    · rw [if_pos hk5]
      exact go 4 (.inr rfl) (by rw [hk5]; rfl) (by omega) (by rw [hk5]; rfl)
    rw [if_neg hk5]
    have : rstp [] e.k = none := by
      unfold rstp
      rw [if_neg hk78, if_neg (by omega)]
      split
      · rfl
      · rfl
    rw [this]
theorem rendP_eq (l : List Ev) (i : Nat) : rendP l i = endP l i := by unfold rendP; rw [endP_eq, rnode_eq]
/-- Where the document's End looks whether mappings are even, no end stands without a beginning. -/
theorem prd_some {t : List Ev} {n : Nat} (h : rend [] t = some n) : ∃ b, prd [] (t.take n) = some b := by
  cases t with
  | nil => cases h
  | cons e t =>
    rw [rend] at h
    by_cases hk78 : e.k = 7 ∨ e.k = 8
    · have : rstp [] e.k = some [] := by unfold rstp; rw [if_pos hk78]
      rw [this] at h
      cases h
      refine ⟨true, ?_⟩
      simp only [List.take_succ_cons, List.take_zero]
      rw [prd_cons, if_neg (by omega), if_neg (by omega)]; rfl
    have go : ∀ (h' : Nat), h' = 3 ∨ h' = 4 → rstp [] e.k = some [clo h'] → ¬ (e.k = 4 ∨ e.k = 6) → (if e.k = 3 ∨ e.k = 5 then (0, decide (e.k = 5)) :: bump [] else bump []) = [(0, decide (h' = 4))] →
        ∃ b, prd [] ((e :: t).take n) = some b := by
      intro h' hh hr hk hcs
      have hc : Cor [h'] [(0, decide (h' = 4))] := by
        rcases hh with rfl | rfl
        · exact ⟨.inl ⟨rfl, rfl⟩, trivial⟩
        · exact ⟨.inr (.inl ⟨rfl, rfl, rfl⟩), trivial⟩
      rw [hr] at h
      simp only at h
      cases hm : rend [clo h'] t with
      | none => rw [hm] at h; cases h
      | some m =>
        rw [hm] at h
        simp at h
        subst h
        obtain ⟨b, hb, -⟩ := side t [h'] _ m (by simp) hc (by simpa using hm)
        refine ⟨b, ?_⟩
        rw [List.take_succ_cons, prd_cons, if_neg hk, hcs, hb]
    by_cases hk3 : e.k = 3
    · exact go 3 (.inl rfl) (by rw [hk3]; rfl) (by omega) (by rw [hk3]; rfl)
    by_cases hk5 : e.k = 5
    · exact go 4 (.inr rfl) (by rw [hk5]; rfl) (by omega) (by rw [hk5]; rfl)
    have : rstp [] e.k = none := by
      unfold rstp
      rw [if_neg hk78, if_neg (by omega)]
      split
      · rfl
      · rfl
    rw [this] at h
    cases h
end Go.Proofs.YteeanpfhngoobaaGreat
namespace Go.Proofs.YteeanpfhngoobaaGreat

theorem rn_cons (s : List Nat) (e : Ev) (t : List Ev) : rn s (e :: t) = match stp s e.k with | none => none | some s' => rn s' t := rfl
theorem told_cons (s : List Nat) (e : Ev) (t : List Ev) : told s (e :: t) = match stp s e.k with | none => [] | some s' => (e, s'.length - 1) :: told s' t := rfl
theorem rn_some {s s' : List Nat} {e : Ev} (t : List Ev) (h : stp s e.k = some s') : rn s (e :: t) = rn s' t := by rw [rn_cons, h]
theorem rn_none {s : List Nat} {e : Ev} (t : List Ev) (h : stp s e.k = none) : rn s (e :: t) = none := by rw [rn_cons, h]
theorem told_some {s s' : List Nat} {e : Ev} (t : List Ev) (h : stp s e.k = some s') : told s (e :: t) = (e, s'.length - 1) :: told s' t := by rw [told_cons, h]
theorem told_none {s : List Nat} {e : Ev} (t : List Ev) (h : stp s e.k = none) : told s (e :: t) = [] := by rw [told_cons, h]
theorem rn_app : ∀ (a : List Ev) (s s' : List Nat) (b : List Ev), rn s a = some s' → rn s (a ++ b) = rn s' b := by
  intro a
  induction a with
  | nil => intro s s' b h; cases h; rfl
  | cons e a ih =>
    intro s s' b h
    cases hs : stp s e.k with
    | none => rw [rn_none _ hs] at h; cases h
    | some q => rw [rn_some _ hs] at h; rw [List.cons_append, rn_some _ hs]; exact ih q s' b h
theorem rn_app_none : ∀ (a : List Ev) (s : List Nat) (b : List Ev), rn s a = none → rn s (a ++ b) = none := by
  intro a
  induction a with
  | nil => intro s b h; cases h
  | cons e a ih =>
    intro s b h
    cases hs : stp s e.k with
    | none => rw [List.cons_append, rn_none _ hs]
    | some q => rw [rn_some _ hs] at h; rw [List.cons_append, rn_some _ hs]; exact ih q b h
theorem told_app : ∀ (a : List Ev) (s s' : List Nat) (b : List Ev), rn s a = some s' → told s (a ++ b) = told s a ++ told s' b := by
  intro a
  induction a with
  | nil => intro s s' b h; cases h; rfl
  | cons e a ih =>
    intro s s' b h
    cases hs : stp s e.k with
    | none => rw [rn_none _ hs] at h; cases h
    | some q => rw [rn_some _ hs] at h; rw [List.cons_append, told_some _ hs, told_some _ hs, ih q s' b h]; rfl
theorem told_all : ∀ (a : List Ev) (s s' : List Nat), rn s a = some s' → (told s a).map (·.1) = a := by
  intro a
  induction a with
  | nil => intro s s' h; rfl
  | cons e a ih =>
    intro s s' h
    cases hs : stp s e.k with
    | none => rw [rn_none _ hs] at h; cases h
    | some q => rw [rn_some _ hs] at h; rw [told_some _ hs, List.map_cons, ih q s' h]
theorem told_few : ∀ (a : List Ev) (s : List Nat), rn s a = none → (told s a).length < a.length := by
  intro a
  induction a with
  | nil => intro s h; cases h
  | cons e a ih =>
    intro s h
    cases hs : stp s e.k with
    | none => rw [told_none _ hs]; simp
    | some q => rw [rn_some _ hs] at h; rw [told_some _ hs]; have := ih q h; simp; omega
theorem told_le (a : List Ev) (s : List Nat) : (told s a).length ≤ a.length := by
  cases h : rn s a with
  | none => exact Nat.le_of_lt (told_few a s h)
  | some s' => have := congrArg List.length (told_all a s s' h); simp at this; omega

/-- What may lie around. -/
def Shp (s : List Nat) : Prop := ∃ q b, s = q ++ [b] ∧ In q ∧ b ≤ 2 ∧ (q ≠ [] → b = 2)
theorem shp_one {b : Nat} (h : b ≤ 2) : Shp [b] := ⟨[], b, rfl, (fun x hx => by cases hx), h, fun h => absurd rfl h⟩
theorem stp_base {b : Nat} {k : Int} {s' : List Nat} (hb : b ≤ 2) (h : stp [b] k = some s') :
    (k = 1 ∧ b = 0 ∧ s' = [1]) ∨ (k = 2 ∧ b = 2 ∧ s' = [0]) ∨ ((k = 7 ∨ k = 8) ∧ b = 1 ∧ s' = [2]) ∨ (k = 3 ∧ b = 1 ∧ s' = [3, 2]) ∨ (k = 5 ∧ b = 1 ∧ s' = [4, 2]) := by
  by_cases h1 : k = 1
  · subst h1
    rw [stp_cons] at h
    split at h
    · rename_i hf; have : b = 0 := by simpa [fol] using hf
      subst this; cases h; exact .inl ⟨rfl, rfl, rfl⟩
    · cases h
  by_cases h2 : k = 2
  · subst h2
    rw [stp_cons] at h
    split at h
    · rename_i hf; have : b = 2 := by simpa [fol] using hf
      subst this; cases h; exact .inr (.inl ⟨rfl, rfl, rfl⟩)
    · cases h
  by_cases hn : k = 7 ∨ k = 8 ∨ k = 3 ∨ k = 5
  · by_cases hb1 : b = 1
    · subst hb1
      rw [stp_node hn rfl] at h
      by_cases h3 : k = 3
      · rw [if_pos h3] at h; cases h; exact .inr (.inr (.inr (.inl ⟨h3, rfl, rfl⟩)))
      · by_cases h5 : k = 5
        · rw [if_neg h3, if_pos h5] at h; cases h; exact .inr (.inr (.inr (.inr ⟨h5, rfl, rfl⟩)))
        · rw [if_neg h3, if_neg h5] at h; cases h; exact .inr (.inr (.inl ⟨by omega, rfl, rfl⟩))
    · rw [stp_cons, fol_node hn] at h
      have : (bn b).2 = false := by unfold bn; rw [if_neg hb1, if_neg (by omega), if_neg (by omega), if_neg (by omega)]
      rw [this] at h
      cases h
  · rw [stp_cons] at h
    have : (fol b k).2 = false := by
      unfold fol
      rw [if_neg h1, if_neg h2, if_neg hn]
      split
      · simp; omega
      · split
        · simp; omega
        · rfl
    rw [this] at h
    cases h
theorem shp_stp {s s' : List Nat} {k : Int} (hs : Shp s) (h : stp s k = some s') : Shp s' := by
  obtain ⟨q, b, rfl, hq, hb, hb2⟩ := hs
  cases q with
  | nil =>
    have h' : stp [b] k = some s' := h
    rcases stp_base hb h' with ⟨-, -, rfl⟩ | ⟨-, -, rfl⟩ | ⟨-, -, rfl⟩ | ⟨-, -, rfl⟩ | ⟨-, -, rfl⟩
    · exact shp_one (by omega)
    · exact shp_one (by omega)
    · exact shp_one (by omega)
    · exact ⟨[3], 2, rfl, (fun x hx => by simp at hx; omega), by omega, fun _ => rfl⟩
    · exact ⟨[4], 2, rfl, (fun x hx => by simp at hx; omega), by omega, fun _ => rfl⟩
  | cons a r =>
    cases hst : stp (a :: r) k with
    | none => rw [stp_app_none [b] (by simp) hst] at h; cases h
    | some q' =>
      rw [stp_app [b] hst] at h
      cases h
      exact ⟨q', b, rfl, stp_in hq hst, hb, fun _ => hb2 (by simp)⟩
theorem shp_ne {s : List Nat} (h : Shp s) : s ≠ [] := by obtain ⟨q, b, rfl, -⟩ := h; simp
theorem shp_rn : ∀ (l : List Ev) (s s' : List Nat), Shp s → rn s l = some s' → Shp s' := by
  intro l
  induction l with
  | nil => intro s s' hs h; cases h; exact hs
  | cons e l ih =>
    intro s s' hs h
    cases hst : stp s e.k with
    | none => rw [rn_none _ hst] at h; cases h
    | some q => rw [rn_some _ hst] at h; exact ih q s' (shp_stp hs hst) h
theorem lastK_app : ∀ (a : List Ev) (e : Ev), lastK (a ++ [e]) = e.k := by
  intro a
  induction a with
  | nil => intro e; rfl
  | cons x a ih =>
    intro e
    cases a with
    | nil => rfl
    | cons y a => exact ih e
/-- Which events leave nothing around. -/
theorem last_two {l : List Ev} {s' : List Nat} (h : rn [0] l = some s') : (l = [] ∨ lastK l = 2) ↔ s' = [0] := by
  rcases List.eq_nil_or_concat l with rfl | ⟨a, e, rfl⟩
  · cases h; simp
  · rw [List.concat_eq_append] at h ⊢
    cases ha : rn [0] a with
    | none => rw [rn_app_none _ _ _ ha] at h; cases h
    | some q =>
      rw [rn_app _ _ _ _ ha] at h
      have hq := shp_rn a _ _ (shp_one (by omega)) ha
      rw [lastK_app]
      cases hst : stp q e.k with
      | none => rw [rn_none _ hst] at h; cases h
      | some s =>
        rw [rn_some _ hst] at h
        cases h
        obtain ⟨p, b, rfl, hp, hb, hb2⟩ := hq
        constructor
        · rintro (h0 | h2)
          · simp at h0
          · cases p with
            | nil =>
              have hst' : stp [b] e.k = some s' := hst
              rcases stp_base hb hst' with ⟨h1, -⟩ | ⟨-, -, rfl⟩ | ⟨h1, -⟩ | ⟨h1, -⟩ | ⟨h1, -⟩
              · omega
              · rfl
              · omega
              · omega
              · omega
            | cons x r =>
              rw [List.cons_append, stp_cons] at hst
              split at hst
              · rename_i hf
                rcases fol_in (hp x (by simp)) hf with ⟨hk, -⟩ | ⟨hk, -⟩ | ⟨hk, -⟩ <;> omega
              · cases hst
        · rintro rfl
          refine .inr ?_
          cases p with
          | nil =>
            have hst' : stp [b] e.k = some [0] := hst
            rcases stp_base hb hst' with ⟨h1, -, e1⟩ | ⟨h1, -, -⟩ | ⟨h1, -, e1⟩ | ⟨h1, -, e1⟩ | ⟨h1, -, e1⟩
            · cases e1
            · exact h1
            · cases e1
            · cases e1
            · cases e1
          | cons x r =>
            have hb' := hb2 (by simp)
            subst hb'
            cases hx : stp (x :: r) e.k with
            | none => rw [stp_app_none [2] (by simp) hx] at hst; cases hst
            | some s =>
              rw [stp_app [2] hx] at hst
              cases s with
              | nil => cases hst
              | cons y s => simp at hst
theorem rightP_iff (l : List Ev) : rightP l = true ↔ (l.all cleanP = true ∧ rn [0] l = some [0]) := by
  unfold rightP
  cases h : rn [0] l with
  | none =>
    have := told_few l [0] h
    constructor
    · intro h1
      rw [Bool.and_eq_true] at h1
      have := of_decide_eq_true h1.2
      omega
    · intro h1; cases h1.2
  | some s' =>
    have hm := told_all l [0] s' h
    have hl : (told [0] l).length = l.length := by rw [← congrArg List.length hm]; simp
    have ha : (told [0] l).all (fun x => cleanP x.1) = l.all cleanP := by
      conv => rhs; rw [← hm]
      rw [List.all_map]; rfl
    rw [Bool.and_eq_true, ha, decide_eq_true_iff]
    have := last_two h
    constructor
    · rintro ⟨h1, -, h2⟩; exact ⟨h1, by rw [this.1 h2]⟩
    · rintro ⟨h1, h2⟩; exact ⟨h1, hl, this.2 (by cases h2; rfl)⟩
theorem rn_kinds : ∀ (l : List Ev) (s s' : List Nat), rn s l = some s' → ∀ e ∈ l, 1 ≤ e.k ∧ e.k ≤ 8 := by
  intro l
  induction l with
  | nil => intro s s' _ e he; cases he
  | cons x l ih =>
    intro s s' h e he
    cases hst : stp s x.k with
    | none => rw [rn_none _ hst] at h; cases h
    | some q =>
      rw [rn_some _ hst] at h
      rcases List.mem_cons.1 he with rfl | he
      · cases s with
        | nil => cases hst
        | cons a r =>
          rw [stp_cons] at hst
          by_cases hk : 1 ≤ e.k ∧ e.k ≤ 8
          · exact hk
          · have : (fol a e.k).2 = false := by
              unfold fol
              rw [if_neg (by omega), if_neg (by omega), if_neg (by omega), if_neg (by omega), if_neg (by omega)]
            rw [this] at hst
            cases hst
      · exact ih q s' h e he
theorem clean_eq (x : Ev) (h : 1 ≤ x.k ∧ x.k ≤ 8) : cleanP x = rcleanP x := by
  obtain ⟨k, tx, tg, an, st, fl⟩ := x
  dsimp only at h
  have : k = 1 ∨ k = 2 ∨ k = 3 ∨ k = 4 ∨ k = 5 ∨ k = 6 ∨ k = 7 ∨ k = 8 := by omega
  unfold cleanP rcleanP
  dsimp only
  generalize tx.toList = a
  generalize tg.toList = b
  generalize an.toList = c
  rw [Bool.eq_iff_iff]
  rcases this with rfl | rfl | rfl | rfl | rfl | rfl | rfl | rfl <;> cases fl <;> simp <;> (try by_cases ha : a = []) <;> (try by_cases hb : b = []) <;> (try by_cases hc : c = []) <;> (try by_cases hs : st = 0) <;> simp [*] <;> omega

-- the document's rows
theorem nEnd_cons (s : List Nat) (e : Ev) (t : List Ev) : nEnd s (e :: t) = match stp s e.k with | none => none | some [] => some 1 | some (h :: r) => (nEnd (h :: r) t).map (· + 1) := rfl
theorem nEnd_rn : ∀ (t : List Ev) (s r : List Nat) (n : Nat), nEnd s t = some n → rn (s ++ r) (t.take n) = some r ∧ 0 < n ∧ n ≤ t.length := by
  intro t
  induction t with
  | nil => intro s r n h; cases h
  | cons e t ih =>
    intro s r n h
    rw [nEnd_cons] at h
    cases hst : stp s e.k with
    | none => rw [hst] at h; cases h
    | some s' =>
      rw [hst] at h
      cases s' with
      | nil => cases h; exact ⟨by rw [List.take_succ_cons, rn_some _ (stp_app r hst)]; rfl, by omega, by simp⟩
      | cons a q =>
        simp only at h
        cases hm : nEnd (a :: q) t with
        | none => rw [hm] at h; cases h
        | some m =>
          rw [hm] at h
          simp at h
          subst h
          obtain ⟨h1, h2, h3⟩ := ih (a :: q) r m hm
          exact ⟨by rw [List.take_succ_cons, rn_some _ (stp_app r hst)]; exact h1, by omega, by simp; omega⟩
theorem nEnd_off : ∀ (t : List Ev) (s r : List Nat), s ≠ [] → nEnd s t = none → rn (s ++ r) t = none ∨ ∃ q, q ≠ [] ∧ rn (s ++ r) t = some (q ++ r) := by
  intro t
  induction t with
  | nil => intro s r hs h; exact .inr ⟨s, hs, rfl⟩
  | cons e t ih =>
    intro s r hs h
    rw [nEnd_cons] at h
    cases hst : stp s e.k with
    | none => exact .inl (rn_none _ (stp_app_none r hs hst))
    | some s' =>
      rw [hst] at h
      cases s' with
      | nil => cases h
      | cons a q =>
        simp only [Option.map_eq_none_iff] at h
        rw [rn_some _ (stp_app r hst)]
        exact ih (a :: q) r (by simp) h
theorem node_rn {t : List Ev} {n : Nat} (h : node t = some n) {a : Nat} (ha : (bn a).2 = true) (r : List Nat) : rn (a :: r) (t.take n) = some ((bn a).1 :: r) ∧ 0 < n ∧ n ≤ t.length := by
  cases t with
  | nil => cases h
  | cons e t =>
    rw [node_cons] at h
    by_cases h78 : e.k = 7 ∨ e.k = 8
    · rw [if_pos h78] at h
      cases h
      refine ⟨?_, by omega, by simp⟩
      rw [List.take_succ_cons, rn_some _ (stp_node (by omega) ha), if_neg (by omega), if_neg (by omega)]
      rfl
    rw [if_neg h78] at h
    have go : ∀ (x : Nat), stp (a :: r) e.k = some (x :: (bn a).1 :: r) → (nEnd [x] t).map (· + 1) = some n → rn (a :: r) ((e :: t).take n) = some ((bn a).1 :: r) ∧ 0 < n ∧ n ≤ (e :: t).length := by
      intro x hst hm
      cases hx : nEnd [x] t with
      | none => rw [hx] at hm; cases hm
      | some m =>
        rw [hx] at hm
        simp at hm
        subst hm
        obtain ⟨h1, h2, h3⟩ := nEnd_rn t [x] ((bn a).1 :: r) m hx
        exact ⟨by rw [List.take_succ_cons, rn_some _ hst]; exact h1, by omega, by simp; omega⟩
    by_cases h3 : e.k = 3
    · rw [if_pos h3] at h
      exact go 3 (by rw [stp_node (by omega) ha, if_pos h3]) h
    rw [if_neg h3] at h
    by_cases h5 : e.k = 5
    · rw [if_pos h5] at h
      exact go 4 (by rw [stp_node (by omega) ha, if_neg h3, if_pos h5]) h
    rw [if_neg h5] at h
    cases h
theorem node_off {t : List Ev} (h : node t = none) : rn [1] t ≠ some [0] := by
  cases t with
  | nil => intro h0; cases h0
  | cons e t =>
    rw [node_cons] at h
    intro h0
    cases hst : stp [1] e.k with
    | none => rw [rn_none _ hst] at h0; cases h0
    | some s' =>
      rw [rn_some _ hst] at h0
      have go : ∀ (x : Nat), s' = [x, 2] → (nEnd [x] t).map (· + 1) = none → False := by
        intro x hx hm
        subst hx
        simp only [Option.map_eq_none_iff] at hm
        rcases nEnd_off t [x] [2] (by simp) hm with h1 | ⟨q, hq, h1⟩
        · rw [show ([x] ++ [2] : List Nat) = [x, 2] from rfl] at h1; rw [h1] at h0; cases h0
        · rw [show ([x] ++ [2] : List Nat) = [x, 2] from rfl] at h1
          rw [h1] at h0
          cases q with
          | nil => exact hq rfl
          | cons y q => simp at h0
      rcases stp_base (by omega) hst with ⟨-, hb, -⟩ | ⟨-, hb, -⟩ | ⟨h1, -, -⟩ | ⟨h1, -, e1⟩ | ⟨h1, -, e1⟩
      · omega
      · omega
      · rw [if_pos h1] at h; cases h
      · rw [if_neg (by omega), if_pos h1] at h; exact go 3 e1 h
      · rw [if_neg (by omega), if_neg (by omega), if_pos h1] at h; exact go 4 e1 h
theorem docs_rn : ∀ (f : Nat) (l : List Ev), l.length < f → (docsF f l = true ↔ rn [0] l = some [0]) := by
  intro f
  induction f with
  | zero => intro l h; omega
  | succ f ih =>
    intro l hl
    cases l with
    | nil => rw [docsF]; simp [rn]
    | cons e t =>
      rw [docsF, rnode_eq]
      by_cases hk : e.k = 1
      · have hst : stp [0] e.k = some [1] := by rw [hk]; rfl
        rw [rn_some _ hst]
        simp only [hk, decide_true, Bool.true_and]
        cases hn : node t with
        | none => simp; exact node_off hn
        | some n =>
          obtain ⟨h1, h2, h3⟩ := node_rn hn (a := 1) rfl []
          have h4 : rn [1] t = rn [2] (t.drop n) := by
            conv => lhs; rw [← List.take_append_drop n t]
            exact rn_app _ _ _ _ h1
          rw [h4]
          cases hd : t.drop n with
          | nil => simp [rn, hd]
          | cons d u =>
            simp only [hd]
            have hlu : u.length < f := by
              have := congrArg List.length hd
              simp at this hl
              omega
            by_cases hd2 : d.k = 2
            · have hst2 : stp [2] d.k = some [0] := by rw [hd2]; rfl
              rw [rn_some _ hst2]
              simp only [hd2, decide_true, Bool.true_and]
              exact ih u hlu
            · have : rn [2] (d :: u) ≠ some [0] := by
                cases hst : stp [2] d.k with
                | none => rw [rn_none _ hst]; simp
                | some s' => rcases stp_base (by omega) hst with ⟨-, hb, -⟩ | ⟨hb, -, -⟩ | ⟨-, hb, -⟩ | ⟨-, hb, -⟩ | ⟨-, hb, -⟩ <;> omega
              simp [hd2, this]
      · have : rn [0] (e :: t) ≠ some [0] := by
          cases hst : stp [0] e.k with
          | none => rw [rn_none _ hst]; simp
          | some s' => rcases stp_base (by omega) hst with ⟨hb, -, -⟩ | ⟨-, hb, -⟩ | ⟨-, hb, -⟩ | ⟨-, hb, -⟩ | ⟨-, hb, -⟩ <;> omega
        simp [hk, this]
theorem right_eq (l : List Ev) : rightP l = rrightP l := by
  rw [Bool.eq_iff_iff, rightP_iff]
  unfold rrightP
  rw [Bool.and_eq_true, docs_rn (l.length + 1) l (by omega)]
  constructor
  · rintro ⟨h1, h2⟩
    refine ⟨?_, h2⟩
    rw [List.all_eq_true] at h1 ⊢
    exact fun x hx => by rw [← clean_eq x (rn_kinds l _ _ h2 x hx)]; exact h1 x hx
  · rintro ⟨h1, h2⟩
    refine ⟨?_, h2⟩
    rw [List.all_eq_true] at h1 ⊢
    exact fun x hx => by rw [clean_eq x (rn_kinds l _ _ h2 x hx)]; exact h1 x hx
theorem stp_len {s s' : List Nat} {k : Int} (h : stp s k = some s') : s'.length = if k = 3 ∨ k = 5 then s.length + 1 else if k = 4 ∨ k = 6 then s.length - 1 else s.length := by
  cases s with
  | nil => cases h
  | cons a r =>
    rw [stp_cons] at h
    split at h
    · cases h
      unfold nxt
      by_cases h3 : k = 3
      · rw [if_pos h3, if_pos (.inl h3)]; simp
      · by_cases h5 : k = 5
        · rw [if_neg h3, if_pos h5, if_pos (.inr h5)]; simp
        · rw [if_neg h3, if_neg h5, if_neg (show ¬ (k = 3 ∨ k = 5) by omega)]
          split <;> simp
    · cases h
theorem dep_eq : ∀ (l : List Ev) (s s' : List Nat) (m : Nat), Shp s → rn s l = some s' → rdep ((s.length - 1 : Nat) : Int) (m : Int) l = ((maxD (told s l) m : Nat) : Int) := by
  intro l
  induction l with
  | nil => intro s s' m _ _; rfl
  | cons e l ih =>
    intro s s' m hs h
    cases hst : stp s e.k with
    | none => rw [rn_none _ hst] at h; cases h
    | some q =>
      rw [rn_some _ hst] at h
      have hq := shp_stp hs hst
      have hl := stp_len hst
      have hs0 : 0 < s.length := List.length_pos_iff.2 (shp_ne hs)
      have hq0 : 0 < q.length := List.length_pos_iff.2 (shp_ne hq)
      rw [told_some _ hst, maxD, ← ih q s' _ hq h, rdep]
      have e1 : (if e.k = 3 ∨ e.k = 5 then ((s.length - 1 : Nat) : Int) + 1 else if e.k = 4 ∨ e.k = 6 then ((s.length - 1 : Nat) : Int) - 1 else ((s.length - 1 : Nat) : Int)) = ((q.length - 1 : Nat) : Int) := by
        split at hl
        · rename_i h1; rw [if_pos h1]; omega
        · rename_i h1
          rw [if_neg h1]
          split at hl
          · rename_i h2; rw [if_pos h2]; omega
          · rename_i h2; rw [if_neg h2]; omega
      simp only [e1]
      congr 1
      split <;> omega
theorem depth_eq (l : List Ev) : rdepthP l = (depthP l : Int) := by
  unfold rdepthP depthP
  rw [← right_eq]
  cases h : rightP l with
  | false => rfl
  | true =>
    have := dep_eq l [0] [0] 0 (shp_one (by omega)) ((rightP_iff l).1 h).2
    simpa using this

-- rows one behind the other
theorem maxD_app : ∀ (a b : List (Ev × Nat)) (m : Nat), maxD (a ++ b) m = maxD b (maxD a m) := by
  intro a
  induction a with
  | nil => intro b m; rfl
  | cons x a ih => intro b m; exact ih b _
theorem maxD_max : ∀ (a : List (Ev × Nat)) (m : Nat), maxD a m = max m (maxD a 0) := by
  intro a
  induction a with
  | nil => intro m; simp [maxD]
  | cons x a ih => intro m; rw [maxD, maxD, ih (max m x.2), ih (max 0 x.2)]; omega
theorem parts_plain {a b : List Ev} (ha : rightP a = true) (hb : rightP b = true) : rightP (a ++ b) = true ∧ depthP (a ++ b) = (if depthP b > depthP a then depthP b else depthP a) ∧ nodesP (a ++ b) = nodesP a + nodesP b := by
  obtain ⟨a1, a2⟩ := (rightP_iff a).1 ha
  obtain ⟨b1, b2⟩ := (rightP_iff b).1 hb
  have hr : rightP (a ++ b) = true := (rightP_iff _).2 ⟨by rw [List.all_append, a1, b1]; rfl, by rw [rn_app _ _ _ _ a2, b2]⟩
  refine ⟨hr, ?_, by unfold nodesP; rw [List.countP_append]⟩
  unfold depthP
  rw [hr, ha, hb, told_app _ _ _ _ a2, maxD_app, maxD_max (told [0] b)]
  simp only [if_true]
  split <;> omega

-- a node within a collection
theorem told_shift : ∀ (t : List Ev) (s r : List Nat) (x y : Nat), nEnd s t = some t.length → told (s ++ x :: r) t = (told (s ++ [y]) t).map fun p => (p.1, p.2 + r.length) := by
  intro t
  induction t with
  | nil => intro s r x y h; rfl
  | cons e t ih =>
    intro s r x y h
    rw [nEnd_cons] at h
    cases hst : stp s e.k with
    | none => rw [hst] at h; cases h
    | some s' =>
      rw [hst] at h
      rw [told_some _ (stp_app (x :: r) hst), told_some _ (stp_app [y] hst)]
      cases s' with
      | nil =>
        simp at h
        subst h
        simp [told]
      | cons a q =>
        simp only [List.length_cons, Option.map_eq_some_iff] at h
        obtain ⟨m, hm, hml⟩ := h
        have : m = t.length := by omega
        subst this
        rw [ih (a :: q) r x y hm, List.map_cons]
        simp
        omega
theorem nEnd_behind : ∀ (t : List Ev) (s : List Nat) (a : Nat) (r : List Nat) (u : List Ev), nEnd s t = some t.length → nEnd (s ++ a :: r) (t ++ u) = (nEnd (a :: r) u).map (· + t.length) := by
  intro t
  induction t with
  | nil => intro s a r u h; cases h
  | cons e t ih =>
    intro s a r u h
    rw [nEnd_cons] at h
    cases hst : stp s e.k with
    | none => rw [hst] at h; cases h
    | some s' =>
      rw [hst] at h
      rw [List.cons_append, nEnd_cons, stp_app (a :: r) hst]
      cases s' with
      | nil =>
        simp at h
        subst h
        simp
      | cons b q =>
        simp only [List.length_cons, Option.map_eq_some_iff] at h
        obtain ⟨m, hm, hml⟩ := h
        have : m = t.length := by omega
        subst this
        simp only [List.cons_append]
        have := ih (b :: q) a r u hm
        rw [List.cons_append] at this
        rw [this, Option.map_map]
        congr 1
/-- A whole node. -/
theorem node_whole {nd : List Ev} (h : node nd = some nd.length) {a : Nat} (ha : a = 3 ∨ a = 4 ∨ a = 5) : rn [a, 2] nd = some [(bn a).1, 2] ∧ (told [a, 2] nd = (told [1] nd).map fun p => (p.1, p.2 + 1)) ∧ rn [1] nd = some [2] ∧
    ∀ (r : List Nat) (u : List Ev), nEnd (a :: r) (nd ++ u) = (nEnd ((bn a).1 :: r) u).map (· + nd.length) := by
  have hb := (bn_in ha).1
  have h1 := (node_rn h hb [2]).1
  have h2 := (node_rn h (a := 1) rfl []).1
  rw [List.take_length] at h1 h2
  refine ⟨h1, ?_, h2, ?_⟩
  · cases nd with
    | nil => rfl
    | cons e t =>
      rw [node_cons] at h
      by_cases h78 : e.k = 7 ∨ e.k = 8
      · rw [if_pos h78] at h
        simp at h
        subst h
        rw [told_some _ (stp_node (by omega) hb), told_some _ (stp_node (by omega) (h := 1) rfl), if_neg (by omega), if_neg (by omega), if_neg (by omega), if_neg (by omega)]
        rfl
      rw [if_neg h78] at h
      have go : ∀ x : Nat, stp [a, 2] e.k = some [x, (bn a).1, 2] → stp [1] e.k = some [x, 2] → (nEnd [x] t).map (· + 1) = some (e :: t).length → told [a, 2] (e :: t) = (told [1] (e :: t)).map fun p => (p.1, p.2 + 1) := by
        intro x s1 s2 hm
        simp only [List.length_cons, Option.map_eq_some_iff] at hm
        obtain ⟨m, hm, hml⟩ := hm
        have : m = t.length := by omega
        subst this
        rw [told_some _ s1, told_some _ s2]
        have := told_shift t [x] [2] (bn a).1 2 hm
        simp at this ⊢
        exact this
      by_cases h3 : e.k = 3
      · rw [if_pos h3] at h
        exact go 3 (by rw [stp_node (by omega) hb, if_pos h3]) (by rw [stp_node (by omega) rfl, if_pos h3]; rfl) h
      rw [if_neg h3] at h
      by_cases h5 : e.k = 5
      · rw [if_pos h5] at h
        exact go 4 (by rw [stp_node (by omega) hb, if_neg h3, if_pos h5]) (by rw [stp_node (by omega) rfl, if_neg h3, if_pos h5]; rfl) h
      rw [if_neg h5] at h
      cases h
  · intro r u
    cases nd with
    | nil => cases h
    | cons e t =>
      rw [node_cons] at h
      rw [List.cons_append, nEnd_cons]
      by_cases h78 : e.k = 7 ∨ e.k = 8
      · rw [if_pos h78] at h
        simp at h
        subst h
        rw [stp_node (by omega) hb, if_neg (by omega), if_neg (by omega)]
        rfl
      rw [if_neg h78] at h
      have go : ∀ x : Nat, stp (a :: r) e.k = some (x :: (bn a).1 :: r) → (nEnd [x] t).map (· + 1) = some (e :: t).length →
          (match stp (a :: r) e.k with | none => none | some [] => some 1 | some (h :: r) => (nEnd (h :: r) (t ++ u)).map (· + 1)) = (nEnd ((bn a).1 :: r) u).map (· + (e :: t).length) := by
        intro x s1 hm
        simp only [List.length_cons, Option.map_eq_some_iff] at hm
        obtain ⟨m, hm, hml⟩ := hm
        have : m = t.length := by omega
        subst this
        rw [s1]
        simp only
        have := nEnd_behind t [x] (bn a).1 r u hm
        rw [List.singleton_append] at this
        rw [this, Option.map_map]
        congr 1
      by_cases h3 : e.k = 3
      · rw [if_pos h3] at h
        exact go 3 (by rw [stp_node (by omega) hb, if_pos h3]) h
      rw [if_neg h3] at h
      by_cases h5 : e.k = 5
      · rw [if_pos h5] at h
        exact go 4 (by rw [stp_node (by omega) hb, if_neg h3, if_pos h5]) h
      rw [if_neg h5] at h
      cases h
theorem none_text : (⟨#[]⟩ : ByteArray).toList = [] := by unfold ByteArray.toList ByteArray.toList.loop; rfl
def ev0 (k : Int) : Ev := ⟨k, ⟨#[]⟩, ⟨#[]⟩, ⟨#[]⟩, 0, false⟩
theorem maxD_up : ∀ (a : List (Ev × Nat)) (m : Nat), maxD (a.map fun p => (p.1, p.2 + 1)) (m + 1) = maxD a m + 1 := by
  intro a
  induction a with
  | nil => intro m; rfl
  | cons x a ih => intro m; rw [List.map_cons, maxD, maxD, ← ih (max m x.2)]; congr 1; show max (m + 1) (x.2 + 1) = _; omega
theorem wrap_plain {d e : Ev} {nd : List Ev} {c : Int} (hc : c = 3 ∨ c = 5) (hr : rightP (d :: (nd ++ [e])) = true) (hn : node (nd ++ [e]) = some nd.length) :
    rightP (d :: ev0 c :: (nd ++ (nd ++ [ev0 (c + 1), e]))) = true ∧
    depthP (d :: ev0 c :: (nd ++ (nd ++ [ev0 (c + 1), e]))) = depthP (d :: (nd ++ [e])) + 1 ∧
    endP (d :: ev0 c :: (nd ++ (nd ++ [ev0 (c + 1), e]))) 1 = nd.length + nd.length + 3 ∧
    rightP (d :: ev0 5 :: (nd ++ [ev0 6, e])) = false := by
  obtain ⟨hcl, hrn⟩ := (rightP_iff _).1 hr
  have hnw : node nd = some nd.length := by
    -- a node that ends there ends there without what stands behind
    have key : ∀ (t : List Ev) (s : List Nat) (u : List Ev), nEnd s (t ++ u) = some t.length → nEnd s t = some t.length := by
      intro t
      induction t with
      | nil =>
        intro s u h
        have := (nEnd_rn _ s [] _ h).2.1
        simp at this
      | cons x t ih =>
        intro s u h
        rw [List.cons_append, nEnd_cons] at h
        rw [nEnd_cons]
        cases hst : stp s x.k with
        | none => rw [hst] at h; cases h
        | some s' =>
          rw [hst] at h
          cases s' with
          | nil => exact h
          | cons a q =>
            simp only [List.length_cons, Option.map_eq_some_iff] at h ⊢
            obtain ⟨m, hm, hml⟩ := h
            have : m = t.length := by omega
            subst this
            exact ⟨_, ih (a :: q) u hm, rfl⟩
    cases nd with
    | nil => have := (node_rn hn (a := 1) rfl []).2.1; simp at this
    | cons x t =>
      rw [List.cons_append, node_cons] at hn
      rw [node_cons]
      have fin : ∀ y : Nat, (nEnd [y] (t ++ [e])).map (· + 1) = some (x :: t).length → (nEnd [y] t).map (· + 1) = some (x :: t).length := by
        intro y hn
        simp only [List.length_cons, Option.map_eq_some_iff] at hn ⊢
        obtain ⟨m, hm, hml⟩ := hn
        have : m = t.length := by omega
        subst this
        exact ⟨_, key t _ _ hm, rfl⟩
      by_cases h78 : x.k = 7 ∨ x.k = 8
      · rw [if_pos h78] at hn ⊢; exact hn
      · rw [if_neg h78] at hn ⊢
        by_cases h3 : x.k = 3
        · rw [if_pos h3] at hn ⊢; exact fin _ hn
        · rw [if_neg h3] at hn ⊢
          by_cases h5 : x.k = 5
          · rw [if_pos h5] at hn ⊢; exact fin _ hn
          · rw [if_neg h5] at hn; cases hn
  have hd : d.k = 1 := by
    cases hst : stp [0] d.k with
    | none => rw [rn_none _ hst] at hrn; cases hrn
    | some s' => rcases stp_base (by omega) hst with ⟨hb, -, -⟩ | ⟨-, hb, -⟩ | ⟨-, hb, -⟩ | ⟨-, hb, -⟩ | ⟨-, hb, -⟩ <;> omega
  have sd : stp [0] d.k = some [1] := by rw [hd]; rfl
  have r1 := (node_whole hnw (a := 3) (by omega)).2.2.1
  have he : e.k = 2 := by
    rw [rn_some _ sd, rn_app _ _ _ _ r1] at hrn
    cases hst : stp [2] e.k with
    | none => rw [rn_none _ hst] at hrn; cases hrn
    | some s' => rcases stp_base (by omega) hst with ⟨-, hb, -⟩ | ⟨hb, -, -⟩ | ⟨-, hb, -⟩ | ⟨-, hb, -⟩ | ⟨-, hb, -⟩ <;> omega
  have se : stp [2] e.k = some [0] := by rw [he]; rfl
  have hcd : cleanP d = true ∧ nd.all cleanP = true ∧ cleanP e = true := by
    simp only [List.all_cons, List.all_append, Bool.and_eq_true, List.all_nil] at hcl
    exact ⟨hcl.1, hcl.2.1, hcl.2.2.1⟩
  have hodd : rightP (d :: ev0 5 :: (nd ++ [ev0 6, e])) = false := by
    rw [Bool.eq_false_iff]
    intro h
    have h := ((rightP_iff _).1 h).2
    rw [rn_some _ sd, rn_some (s' := [4, 2]) _ rfl, rn_app _ _ _ _ (node_whole hnw (a := 4) (by omega)).1] at h
    have : stp [(bn 4).1, 2] (ev0 6).k = none := rfl
    rw [rn_none _ this] at h
    cases h
  have hda : depthP (d :: (nd ++ [e])) = maxD (told [1] nd) 0 := by
    unfold depthP
    rw [hr, if_pos rfl, told_some _ sd, told_app _ _ _ _ r1, told_some _ se, maxD, maxD_app]
    show max (maxD (told [1] nd) (max 0 0)) 0 = _
    simp
  rw [hda]
  have hcl0 : ∀ k : Int, k = 3 ∨ k = 4 ∨ k = 5 ∨ k = 6 → cleanP (ev0 k) = true := by
    rintro k (rfl | rfl | rfl | rfl) <;> simp [cleanP, ev0, none_text]
  -- for either kind
  have go : ∀ (x y : Nat), (x = 3 ∨ x = 4) → (bn x).1 = y → (bn y).1 = x → (y = 3 ∨ y = 4 ∨ y = 5) → (∀ r, stp (1 :: r) (ev0 c).k = some (x :: 2 :: r)) → (∀ r, stp (x :: r) (ev0 (c + 1)).k = some r) → (∀ t, node (ev0 c :: t) = (nEnd [x] t).map (· + 1)) →
      rightP (d :: ev0 c :: (nd ++ (nd ++ [ev0 (c + 1), e]))) = true ∧
      depthP (d :: ev0 c :: (nd ++ (nd ++ [ev0 (c + 1), e]))) = maxD (told [1] nd) 0 + 1 ∧
      endP (d :: ev0 c :: (nd ++ (nd ++ [ev0 (c + 1), e]))) 1 = nd.length + nd.length + 3 := by
    intro x y hx hxy hyx hy s1 s2 hno
    obtain ⟨n1, n2, -, n4⟩ := node_whole hnw (a := x) (by omega)
    obtain ⟨m1, m2, -, m4⟩ := node_whole hnw (a := y) hy
    rw [hxy] at n1 n4
    rw [hyx] at m1 m4
    have hrt : rightP (d :: ev0 c :: (nd ++ (nd ++ [ev0 (c + 1), e]))) = true := by
      refine (rightP_iff _).2 ⟨?_, ?_⟩
      · simp only [List.all_cons, List.all_append, List.all_nil, hcd.1, hcd.2.1, hcd.2.2, hcl0 c (by omega), hcl0 (c + 1) (by omega), Bool.and_true]
      · rw [rn_some _ sd, rn_some _ (s1 []), rn_app _ _ _ _ n1, rn_app _ _ _ _ m1, rn_some _ (s2 [2]), rn_some _ se]
        rfl
    refine ⟨hrt, ?_, ?_⟩
    · unfold depthP
      rw [hrt, if_pos rfl, told_some _ sd, told_some _ (s1 []), told_app _ _ _ _ n1, told_app _ _ _ _ m1, told_some _ (s2 [2]), told_some _ se, n2, m2]
      rw [maxD, maxD, maxD_app, maxD_app]
      show max (max (maxD ((told [1] nd).map fun p => (p.1, p.2 + 1)) (maxD ((told [1] nd).map fun p => (p.1, p.2 + 1)) (max (max 0 0) (0 + 1)))) 0) 0 = _
      rw [show max (max 0 0) (0 + 1) = 0 + 1 from rfl, maxD_up, maxD_up, maxD_max _ (maxD (told [1] nd) 0)]
      omega
    · rw [endP_eq]
      show upto 1 (node (ev0 c :: (nd ++ (nd ++ [ev0 (c + 1), e])))) = _
      rw [hno, n4, m4, nEnd_cons, s2 []]
      simp [upto]
      omega
  rcases hc with rfl | rfl
  · obtain ⟨g1, g2, g3⟩ := go 3 3 (by omega) rfl rfl (by omega) (fun r => rfl) (fun r => rfl) (fun t => rfl)
    exact ⟨g1, g2, g3, hodd⟩
  · obtain ⟨g1, g2, g3⟩ := go 4 5 (by omega) rfl rfl (by omega) (fun r => rfl) (fun r => rfl) (fun t => rfl)
    exact ⟨g1, g2, g3, hodd⟩
end Go.Proofs.YteeanpfhngoobaaGreat
