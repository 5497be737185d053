/- Graph: its walk. -/
import Derived.Test.YteeanpfhngoobaaGreatZXua
set_option linter.all false
set_option maxRecDepth 100000
namespace Go.Proofs.YteeanpfhngoobaaGreat.Xk
open Go.RowKit

theorem evs_flat : ∀ L : List Ev, evs L.length (Go.Proofs.YteeanpfhngoobaaGreat.flat L) = some L
  | [] => rfl
  | e :: L => by
    have := evs_flat L
    show (match evs L.length (Go.Proofs.YteeanpfhngoobaaGreat.flat L) with | some L' => some (_ :: L') | none => none) = _
    rw [this]
theorem right_r {h : HP} {n : Nat} {v : Value} {L : List Ev} (he : EvAt h n v L) (hL : L.length ≤ 1048576) : CallR Tryz.prog 19 [v] h (fun u h' => u = .bool (rightP L) ∧ h' = h) := by
  have hx : rightO 19 [v] h = some (.bool (rightP L), h) := by
    rcases he with ⟨rfl, rfl⟩ | ⟨b, off, c, rfl, hb, hr⟩
    · rfl
    · have hev : evs L.length (Go.Proofs.YteeanpfhngoobaaGreat.flat L) = some L := evs_flat L
      unfold rightO
      rw [if_pos rfl]
      dsimp only
      rw [hr]
      dsimp only
      rw [hev]
      dsimp only
      rw [if_pos hL, rightB_eq]
  exact CallR.of_run rightO_ok hx
/-- What the program's Graph answers: its error, and the graph. -/
def graphP (L : List Ev) (depth nodes : Int) : Int × List Nd × List Int :=
  if rightP L then (let r := goP (cutP depth 200) (cutP nodes 20000) L ⟨[], [], [], []⟩; if r.1 = 0 then (0, r.2.N, r.2.R) else (r.1, [], [])) else (1, [], [])
/-- A graph lies there. -/
def GrAt (h : HP) (ns rs : Value) (N : List Nd) (R : List Int) : Prop :=
  ∃ (on r : Option Nat) (kv : List Value) (oks : List (Option Nat)), Lst h 5 ns (nodeCells N kv) N.length on ∧ Lst h 1 rs (ints R) R.length r ∧ kv.length = N.length ∧ oks.length = N.length ∧ (∀ (i : Nat) (x : Nd) (v : Value) (o : Option Nat), N[i]? = some x → kv[i]? = some v → oks[i]? = some o → Lst h 1 v (ints x.kids) x.kids.length o)
theorem Lst.keep {h h' : HP} {sz n : Nat} {v : Value} {cs : List Value} {own : Option Nat} (hl : Lst h sz v cs n own) (hk : Keep h.nb h h') : Lst h' sz v cs n own := by
  obtain ⟨h1, h2⟩ := hl
  refine ⟨h1, h2.imp id ?_⟩
  rintro ⟨b, c, r, q1, q2, q3, q4⟩
  exact ⟨b, c, r, q1, q2, (hk.2 b (get_lt q3)).trans q3, q4⟩
theorem GrAt.keep {h h' : HP} {ns rs : Value} {N : List Nd} {R : List Int} (hg : GrAt h ns rs N R) (hk : Keep h.nb h h') : GrAt h' ns rs N R := by
  obtain ⟨on, r, kv, oks, h1, h2, h3, h4, h5⟩ := hg
  exact ⟨on, r, kv, oks, h1.keep hk, h2.keep hk, h3, h4, fun i x v o a b c => (h5 i x v o a b c).keep hk⟩
theorem GrAt.nil (h : HP) : GrAt h (.slice none 0 0) (.slice none 0 0) [] [] := ⟨none, none, [], [], ⟨rfl, .inl ⟨rfl, rfl, rfl⟩⟩, ⟨rfl, .inl ⟨rfl, rfl, rfl⟩⟩, rfl, rfl, fun i x v o a => by simp at a⟩
theorem write_all {h : HP} {b e : Nat} {cs vs : List Value} (hg : h.get b = some ⟨cs, e, true⟩) (he : e ≠ 0) (hl : vs.length = cs.length) : ∃ cs', h.write b 0 vs = some (h.put b ⟨cs', e, true⟩) ∧ cs' = setAt cs 0 vs := by
  refine ⟨_, ?_, rfl⟩
  unfold HP.write
  rw [hg]
  dsimp only
  rw [if_pos ⟨rfl, he, by omega⟩]
theorem all6L {a b c d e f : Value} (h : isCell a = true ∧ isCell b = true ∧ isCell c = true ∧ isCell d = true ∧ isCell e = true ∧ isCell f = true) : ∀ (i : Nat) (x : i < 6), isCell ([a, b, c, d, e, f] : List Value)[i] = true := by
  obtain ⟨h0, h1, h2, h3, h4, h5⟩ := h
  intro i hi
  match i, hi with
  | 0, _ => exact h0
  | 1, _ => exact h1
  | 2, _ => exact h2
  | 3, _ => exact h3
  | 4, _ => exact h4
  | 5, _ => exact h5
theorem xres9 {tm : List Value} {h : HP} {b : Nat} {x y u : Value} (h6 : tm.getD 6 undef = .pointer (some ⟨b, 0, none⟩)) (hg : h.get b = some ⟨[x, y], 1, true⟩) (h7 : tm.getD 7 undef = u) : xres Tryz.prog tm h Tryz.f9.results.toList = some [.agg #[x, y], u] := by
  obtain ⟨i28, hi28, hs28⟩ := size28
  show xres Tryz.prog tm h [.cell 6 28, .tmp 7] = _
  have hr : h.read b 0 2 = some [x, y] := by
    unfold HP.read
    rw [hg]
    rfl
  unfold xres
  rw [Tryz.underlying28, hi28, h6]
  simp [aggD, hs28, hr, xres, ← h7]
theorem MS.start {h : HP} {M n : Nat} {D K : Int} (hn : n ≤ M) (hg : h.get M = some ⟨[.slice none 0 0, .slice none 0 0, .slice none 0 0, .map none, .int .i64 D, .int .i64 K], 1, true⟩) : MS h M n [] [] [] [] D K := by
  have := get_lt hg
  refine ⟨by omega, .slice none 0 0, .slice none 0 0, .slice none 0 0, none, none, none, none, [], [], ?_, fun b hb => ?_⟩
  · exact { cells := hg, nodes := ⟨rfl, .inl ⟨rfl, rfl, rfl⟩⟩, roots := ⟨rfl, .inl ⟨rfl, rfl, rfl⟩⟩, opn := ⟨rfl, .inl ⟨rfl, rfl, rfl⟩⟩, names := rfl, lk := rfl, lo := rfl, kids := fun i x v o a => by simp at a, apart := by simp [ownL] }
  · simp [ownL] at hb
    omega
def ps0 : PS := ⟨[], [], [], []⟩
theorem goP_app (D K : Int) : ∀ (A B : List Ev) (s : PS), goP D K (A ++ B) s = if (goP D K A s).1 = 0 then goP D K B (goP D K A s).2 else goP D K A s
  | [], B, s => by simp [goP]
  | e :: A, B, s => by
    show (if (takeP D K s e).1 = 0 then goP D K (A ++ B) (takeP D K s e).2 else ((takeP D K s e).1, s)) = _
    by_cases h : (takeP D K s e).1 = 0
    · rw [if_pos h, goP_app D K A B]
      have : goP D K (e :: A) s = goP D K A (takeP D K s e).2 := if_pos h
      rw [this]
    · have : goP D K (e :: A) s = ((takeP D K s e).1, s) := if_neg h
      rw [if_neg h, this, if_neg h]
theorem rn_split : ∀ (A : List Ev) (s : List Nat) (e : Ev) (B : List Ev) (x : List Nat), rn s (A ++ e :: B) = some x → ∃ st st', rn s A = some st ∧ stp st e.k = some st' ∧ rn s (A ++ [e]) = some st'
  | [], s, e, B, x, h => by
    have h' : (match stp s e.k with | none => none | some s' => rn s' B) = some x := h
    cases hs : stp s e.k with
    | none => rw [hs] at h'; cases h'
    | some s' => exact ⟨s, s', rfl, hs, by show (match stp s e.k with | none => none | some s' => rn s' []) = _; rw [hs]; rfl⟩
  | y :: A, s, e, B, x, h => by
    have h' : (match stp s y.k with | none => none | some s' => rn s' (A ++ e :: B)) = some x := h
    cases hs : stp s y.k with
    | none => rw [hs] at h'; cases h'
    | some s' =>
      rw [hs] at h'
      obtain ⟨st, st', h1, h2, h3⟩ := rn_split A s' e B x h'
      refine ⟨st, st', ?_, h2, ?_⟩
      · show (match stp s y.k with | none => none | some s' => rn s' A) = _
        rw [hs]; exact h1
      · show (match stp s y.k with | none => none | some s' => rn s' (A ++ [e])) = _
        rw [hs]; exact h3
/-- The maker behind so many events. -/
def GS (L : List Ev) (D K : Int) (M n : Nat) (h1 g : HP) (i : Nat) : Prop :=
  Keep n h1 g ∧ (goP D K (L.take i) ps0).1 = 0 ∧ MS g M n (goP D K (L.take i) ps0).2.N (goP D K (L.take i) ps0).2.R (goP D K (L.take i) ps0).2.O (goP D K (L.take i) ps0).2.T D K ∧ ∃ st, rn [0] (L.take i) = some st ∧ Good st (goP D K (L.take i) ps0).2 (3 * i)
theorem take_snoc {L : List Ev} {i : Nat} {e : Ev} (h : L[i]? = some e) : L.take (i + 1) = L.take i ++ [e] := by
  rw [List.take_add_one, h]; rfl
/-- An event more: an error, or the maker behind it. -/
theorem GS.next {L : List Ev} {D K : Int} {M n : Nat} {h1 g g' : HP} {i : Nat} {e : Ev} {v : Value} (hs : GS L D K M n h1 g i) (hr : rightP L = true) (he : L[i]? = some e) (hk : Keep n g g') (hv : v = .int .i64 (takeP D K (goP D K (L.take i) ps0).2 e).1)
    (hm : (takeP D K (goP D K (L.take i) ps0).2 e).1 = 0 → MS g' M n (takeP D K (goP D K (L.take i) ps0).2 e).2.N (takeP D K (goP D K (L.take i) ps0).2 e).2.R (takeP D K (goP D K (L.take i) ps0).2 e).2.O (takeP D K (goP D K (L.take i) ps0).2 e).2.T D K) :
    (v = .int .i64 0 ∧ GS L D K M n h1 g' (i + 1)) ∨ (∃ x : Int, x ≠ 0 ∧ v = .int .i64 x ∧ (goP D K L ps0).1 = x) := by
  obtain ⟨a1, a2, a3, st, a4, a5⟩ := hs
  have hlt := (List.getElem?_eq_some_iff.1 he).1
  have hsplit : L = L.take i ++ e :: L.drop (i + 1) := by
    conv => lhs; rw [← List.take_append_drop i L, List.drop_eq_getElem_cons hlt]
    rw [(List.getElem?_eq_some_iff.1 he).2]
  by_cases h0 : (takeP D K (goP D K (L.take i) ps0).2 e).1 = 0
  · left
    have hrn := ((rightP_iff L).1 hr).2
    rw [hsplit] at hrn
    obtain ⟨st1, st2, b1, b2, b3⟩ := rn_split _ _ _ _ _ hrn
    rw [a4] at b1
    cases b1
    have hgo : goP D K (L.take (i + 1)) ps0 = (0, (takeP D K (goP D K (L.take i) ps0).2 e).2) := by
      rw [take_snoc he, goP_app, if_pos a2]
      show (if (takeP D K (goP D K (L.take i) ps0).2 e).1 = 0 then (0, (takeP D K (goP D K (L.take i) ps0).2 e).2) else _) = _
      rw [if_pos h0]
    refine ⟨by rw [hv, h0], a1.trans hk, by rw [hgo], by rw [hgo]; exact hm h0, st2, by rw [take_snoc he]; exact b3, ?_⟩
    rw [hgo]
    have := take_good a5 b2 h0
    rw [show 3 * (i + 1) = 3 * i + 3 by omega]
    exact this
  · right
    refine ⟨_, h0, hv, ?_⟩
    have key : ∀ A B, L = A ++ e :: B → (goP D K A ps0).1 = 0 → ¬ (takeP D K (goP D K A ps0).2 e).1 = 0 → (goP D K L ps0).1 = (takeP D K (goP D K A ps0).2 e).1 := by
      intro A B hAB h1 h2
      rw [hAB, goP_app, if_pos h1]
      show (if (takeP D K (goP D K A ps0).2 e).1 = 0 then _ else ((takeP D K (goP D K A ps0).2 e).1, (goP D K A ps0).2)).1 = _
      rw [if_neg h2]
    exact key _ _ hsplit a2 h0
theorem Good.start : Good [0] ps0 0 := by
  refine ⟨⟨Nat.le_refl _, fun y hy => ?_, Nat.le_refl _, Nat.le_refl _, fun t ht => ?_⟩, fun x hx => ?_, [], 0, rfl, by decide, fun x hx => by simp at hx, rfl⟩
  · simp [ps0] at hy
  · simp [ps0] at ht
  · simp [ps0] at hx
theorem MS.keep {g g1 : HP} {M n : Nat} {N : List Nd} {R : List Int} {O : List Nat} {T : List Value} {D K : Int} (hs : MS g M n N R O T D K) (hk : Keep g.nb g g1) : MS g1 M n N R O T D K := by
  obtain ⟨h1, ns, rs, os, mp, on, r, oo, kv, oks, hm, hl⟩ := hs
  exact ⟨by have := hk.1; omega, ns, rs, os, mp, on, r, oo, kv, oks, hm.else (l := []) ⟨hk.1, fun k h _ => hk.2 k h⟩ (fun _ _ h => by cases h), hl⟩
theorem Keep.low {n m : Nat} {g g1 : HP} (hk : Keep m g g1) (h : n ≤ m) : Keep n g g1 := ⟨hk.1, fun k hk2 => hk.2 k (by omega)⟩
theorem GS.keep {L : List Ev} {D K : Int} {M n : Nat} {h1 g g1 : HP} {i : Nat} (hs : GS L D K M n h1 g i) (hk : Keep g.nb g g1) (hn : n ≤ g.nb) : GS L D K M n h1 g1 i :=
  ⟨hs.1.trans (hk.low hn), hs.2.1, hs.2.2.1.keep hk, hs.2.2.2⟩
theorem GS.pop {L : List Ev} {D K : Int} {M n : Nat} {h1 g : HP} {i : Nat} {e : Ev} (hs : GS L D K M n h1 g i) (hr : rightP L = true) (he : L[i]? = some e) : (e.k = 4 ∨ e.k = 6) → (goP D K (L.take i) ps0).2.O ≠ [] := by
  obtain ⟨a1, a2, a3, st, a4, a5⟩ := hs
  have hlt := (List.getElem?_eq_some_iff.1 he).1
  have hsplit : L = L.take i ++ e :: L.drop (i + 1) := by
    conv => lhs; rw [← List.take_append_drop i L, List.drop_eq_getElem_cons hlt]
    rw [(List.getElem?_eq_some_iff.1 he).2]
  have hrn := ((rightP_iff L).1 hr).2
  rw [hsplit] at hrn
  obtain ⟨st1, st2, b1, b2, b3⟩ := rn_split _ _ _ _ _ hrn
  rw [a4] at b1
  cases b1
  exact fun h => ((stp_ok a5.ok b2).1 h).1
set_option maxHeartbeats 4000000 in
theorem graph_r {h : HP} {v : Value} {L : List Ev} {depth nodes : Int} (he : EvAt h h.nb v L) (hL : L.length ≤ 300) :
    CallR Tryz.prog 9 [v, .int .i64 depth, .int .i64 nodes] h (fun u h' => Keep h.nb h h' ∧ ∃ ns rs, u = .tuple #[.agg #[ns, rs], .int .i64 (graphP L depth nodes).1] ∧ GrAt h' ns rs (graphP L depth nodes).2.1 (graphP L depth nodes).2.2) := by
  obtain ⟨i28, hi28, hs28⟩ := size28
  obtain ⟨i22, hi46, hs46⟩ := size46
  obtain ⟨i60, hi60, hs60⟩ := size60
  obtain ⟨p, c, hv⟩ : ∃ p c, v = .slice p L.length c := by
    rcases he with ⟨rfl, rfl⟩ | ⟨b, off, c, rfl, -⟩
    · exact ⟨_, _, rfl⟩
    · exact ⟨_, _, rfl⟩
  have hk0 : Keep h.nb h (h.push ⟨[.slice none 0 0, .slice none 0 0], 1, true⟩) := ⟨by show h.nb ≤ h.nb + 1; omega, fun k hk => get_push_old _ (by omega)⟩
  have he0 := he.keep hk0
  have hg0 : (h.push ⟨[.slice none 0 0, .slice none 0 0], 1, true⟩).get h.nb = some ⟨[.slice none 0 0, .slice none 0 0], 1, true⟩ := get_push_new _
  refine CallR.of_body1 Tryz.func9 (by kernel_rfl) rfl fun Q hQ => ?_
  show CodeR _ _ ([v, .int .i64 depth, .int .i64 nodes] ++ List.replicate 33 undef) h _
  simp only [List.replicate, List.cons_append, List.nil_append]
  refine CodeR.seq (CodeR.region ?_)
  simp [OpR, xwant, lightK, lop, evl, flat, flat0, putT, thenR, List.range, List.range.loop, callAt, isApp]
  rw [alloc28]
  dsimp only
  refine CodeR.seq (CodeR.seq (CodeR.region ?_))
  simp [OpR, xwant, lightK, lop, evl, flat, flat0, putT, thenR, List.range, List.range.loop, isLen, isMM, callAt, isApp, isFn, evls]
  generalize hh0 : h.push ⟨[.slice none 0 0, .slice none 0 0], 1, true⟩ = h0 at hk0 he0 hg0 ⊢
  refine (right_r he0 (by omega)).mono ?_
  rintro u h' ⟨rfl, rfl⟩
  rw [lp_not (z := rightP L) rfl]
  simp [OpR]
  cases hr : rightP L
  · refine CodeR.cond (b := true) (by simp [evl, hr]) ?_
    simp only [if_true]
    refine CodeR.seq (CodeR.region ?_)
    simp [OpR, xwant, lightK, lop, evl, flat, flat0, putT, thenR, List.range, List.range.loop, callAt, isApp, evps, zero28, bld28]
    have hw : h'.write h.nb 0 [.slice none 0 0, .slice none 0 0] = some (h'.put h.nb ⟨[.slice none 0 0, .slice none 0 0], 1, true⟩) := by
      unfold HP.write
      rw [hg0]
      rfl
    rw [if_pos (show isCell (.slice none 0 0) = true from rfl)]
    dsimp only
    rw [hop_store (b := h.nb) (off := 0) (v := .agg #[.slice none 0 0, .slice none 0 0]) (cs := [.slice none 0 0, .slice none 0 0]) hi28 rfl rfl rfl (by rw [hs28]; rfl) rfl hw]
    dsimp only
    refine CodeR.ret ?_
    try simp only [thenR]
    have hp : graphP L depth nodes = (1, [], []) := by unfold graphP; rw [hr]; rfl
    refine hQ _ _ _ [.agg #[.slice none 0 0, .slice none 0 0], .int .i64 1] (.inr rfl) (xres9 rfl (get_put_same hg0 _) rfl) (.inr ⟨by simp, rfl, ⟨hk0.1, fun k hk => ?_⟩, .slice none 0 0, .slice none 0 0, ?_⟩)
    · rw [get_put_ne hg0 _ (by omega)]
      exact hk0.2 k hk
    · rw [hp]
      exact ⟨rfl, GrAt.nil _⟩
  · refine CodeR.cond (b := false) (by simp [evl, hr]) ?_
    simp only [Bool.false_eq_true, if_false]
    refine CodeR.skip ?_
    simp only [thenR]
    refine CodeR.seq (CodeR.region ?_)
    simp [OpR, xwant, lightK, lop, evl, flat, flat0, putT, thenR, List.range, List.range.loop, isLen, isMM, callAt, isApp, isFn, evls]
    refine (cut_r depth 200 _ (by decide)).mono ?_
    rintro u h1 ⟨rfl, rfl⟩
    try simp [OpR, xwant, lightK, lop, evl, flat, flat0, putT, thenR, List.range, List.range.loop, isLen, isMM, callAt, isApp, isFn, evls]
    refine (cut_r nodes 20000 _ (by decide)).mono ?_
    rintro u h1 ⟨rfl, rfl⟩
    try simp [OpR, xwant, lightK, lop, evl, flat, flat0, putT, thenR, List.range, List.range.loop, isLen, isMM, callAt, isApp, isFn, evls, evps, co_i, zero60, bld60]
    rw [if_pos (all6L ⟨rfl, rfl, rfl, rfl, rfl, rfl⟩)]
    dsimp only
    rw [alloc60]
    dsimp only
    generalize hDe : cutP depth 200 = D
    generalize hKe : cutP nodes 20000 = K
    have hgM : (h1.push ⟨[.slice none 0 0, .slice none 0 0, .slice none 0 0, .map none, .int .i64 0, .int .i64 0], 1, true⟩).get h1.nb = some ⟨[.slice none 0 0, .slice none 0 0, .slice none 0 0, .map none, .int .i64 0, .int .i64 0], 1, true⟩ := get_push_new _
    have hw : (h1.push ⟨[.slice none 0 0, .slice none 0 0, .slice none 0 0, .map none, .int .i64 0, .int .i64 0], 1, true⟩).write h1.nb 0 [.slice none 0 0, .slice none 0 0, .slice none 0 0, .map none, .int .i64 D, .int .i64 K] = some ((h1.push ⟨[.slice none 0 0, .slice none 0 0, .slice none 0 0, .map none, .int .i64 0, .int .i64 0], 1, true⟩).put h1.nb ⟨[.slice none 0 0, .slice none 0 0, .slice none 0 0, .map none, .int .i64 D, .int .i64 K], 1, true⟩) := by
      unfold HP.write
      rw [hgM]
      rfl
    rw [hop_store (b := h1.nb) (off := 0) (v := .agg #[.slice none 0 0, .slice none 0 0, .slice none 0 0, .map none, .int .i64 D, .int .i64 K]) (cs := [.slice none 0 0, .slice none 0 0, .slice none 0 0, .map none, .int .i64 D, .int .i64 K]) hi60 rfl rfl rfl (by rw [hs60]; rfl) rfl hw]
    dsimp only
    have hms := MS.start (n := h1.nb) (Nat.le_refl _) (get_put_same hgM ⟨[.slice none 0 0, .slice none 0 0, .slice none 0 0, .map none, .int .i64 D, .int .i64 K], 1, true⟩)
    have hk1 : Keep h1.nb h1 ((h1.push ⟨[.slice none 0 0, .slice none 0 0, .slice none 0 0, .map none, .int .i64 0, .int .i64 0], 1, true⟩).put h1.nb ⟨[.slice none 0 0, .slice none 0 0, .slice none 0 0, .map none, .int .i64 D, .int .i64 K], 1, true⟩) := ⟨by show h1.nb ≤ h1.nb + 1; omega, fun k hk => by rw [get_put_ne hgM _ (by omega), get_push_old _ (by omega)]⟩
    generalize (h1.push ⟨[.slice none 0 0, .slice none 0 0, .slice none 0 0, .map none, .int .i64 0, .int .i64 0], 1, true⟩).put h1.nb ⟨[.slice none 0 0, .slice none 0 0, .slice none 0 0, .map none, .int .i64 D, .int .i64 K], 1, true⟩ = h2 at hms hk1 ⊢
    subst hv
    refine CodeR.seq (CodeR.seq (CodeR.region ?_))
    simp [OpR, xwant, lightK, lop, evl, flat, flat0, putT, thenR, List.range, List.range.loop, isLen, isMM, callAt, isApp, isFn, evls, Tryz.underlying22]
    refine CodeR.block ?_
    refine CodeR.loop (fun j t g => ∃ (i : Nat) (x10 x11 x24 x25 x26 x27 x28 x29 x30 x31 x32 x33 : Value), i ≤ L.length ∧ j = L.length - i ∧ t = [.slice p L.length c, .int .i64 depth, .int .i64 nodes, undef, undef, undef, .pointer (some ⟨h.nb, 0, none⟩), .int .i64 0, .pointer (some ⟨h1.nb, 0, none⟩), undef, x10, x11, .slice p L.length c, .bool true, .bool false, undef, .int .i64 depth, .int .i64 D, .int .i64 nodes, .int .i64 K, .agg #[.slice none 0 0, .slice none 0 0, .slice none 0 0, .map none, .int .i64 D, .int .i64 K], .slice p L.length c, .int .i64 L.length, .int .i64 i, x24, x25, x26, x27, x28, x29, x30, x31, x32, x33, undef, undef] ∧ GS L D K h1.nb h1.nb h1 g i) (n := L.length) ⟨0, undef, undef, undef, undef, undef, undef, undef, undef, undef, undef, undef, undef, Nat.zero_le _, rfl, rfl, hk1, rfl, hms, [0], rfl, Good.start⟩ ?_
    rintro j t g ⟨i, x10, x11, x24, x25, x26, x27, x28, x29, x30, x31, x32, x33, hi, rfl, rfl, hgs⟩
    have hnb1 : h1.nb = h.nb + 1 := by rw [← hh0]; rfl
    refine CodeR.seq (CodeR.region ?_)
    simp [OpR, xwant, lightK, lop, evl, flat, flat0, putT, thenR, List.range, List.range.loop]
    simp only [nilEq_int]
    rw [lp_lss (k := .i64) (a := (i : Nat)) (b := (L.length : Nat)) rfl rfl]
    simp [OpR]
    refine CodeR.seq ?_
    by_cases hlt : i < L.length
    · refine CodeR.cond (b := true) (by simp [evl, hlt]) ?_
      simp only [if_true]
      refine CodeR.skip ?_
      simp only [thenR]
      obtain ⟨e, hev⟩ : ∃ e, L[i]? = some e := ⟨_, List.getElem?_eq_getElem hlt⟩
      have heg := he0.keep (n := h.nb) (h' := g) ⟨hgs.1.1, fun k hk => hgs.1.2 k (by omega)⟩
      rcases heg with ⟨-, hn⟩ | ⟨b, off, c', hsl, hbn, hrdL⟩
      · subst hn
        simp at hlt
      cases hsl
      have hrde := EvAt.at_ (c := c) (n := h.nb) hrdL hev
      refine CodeR.seq (CodeR.block (CodeR.seq (CodeR.region ?_)))
      simp [OpR, xwant, lightK, lop, evl, flat, flat0, putT, thenR, List.range, List.range.loop, Tryz.underlying22, Tryz.underlying46, hi46, hs46, aggD, hlt, hrde, isLen, isMM, callAt, isApp, isFn, evls]
      rw [alloc46]
      dsimp only
      have hgz : (g.push ⟨[.int .i64 0, .string ⟨#[]⟩, .string ⟨#[]⟩, .string ⟨#[]⟩, .int .i64 0, .bool false], 1, true⟩).get g.nb = some ⟨[.int .i64 0, .string ⟨#[]⟩, .string ⟨#[]⟩, .string ⟨#[]⟩, .int .i64 0, .bool false], 1, true⟩ := get_push_new _
      have hw2 : (g.push ⟨[.int .i64 0, .string ⟨#[]⟩, .string ⟨#[]⟩, .string ⟨#[]⟩, .int .i64 0, .bool false], 1, true⟩).write g.nb 0 (evC e) = some ((g.push ⟨[.int .i64 0, .string ⟨#[]⟩, .string ⟨#[]⟩, .string ⟨#[]⟩, .int .i64 0, .bool false], 1, true⟩).put g.nb ⟨evC e, 1, true⟩) := by
        unfold HP.write
        rw [hgz]
        rfl
      rw [hop_store (b := g.nb) (off := 0) (v := .agg (evC e).toArray) (cs := evC e) hi46 rfl rfl rfl (by rw [hs46]; rfl) rfl hw2]
      dsimp only
      have hkz : Keep g.nb g ((g.push ⟨[.int .i64 0, .string ⟨#[]⟩, .string ⟨#[]⟩, .string ⟨#[]⟩, .int .i64 0, .bool false], 1, true⟩).put g.nb ⟨evC e, 1, true⟩) := ⟨by show g.nb ≤ g.nb + 1; omega, fun k hk => by rw [get_put_ne hgz _ (by omega), get_push_old _ (by omega)]⟩
      have hg1 := get_put_same hgz ⟨evC e, 1, true⟩
      generalize (g.push ⟨[.int .i64 0, .string ⟨#[]⟩, .string ⟨#[]⟩, .string ⟨#[]⟩, .int .i64 0, .bool false], 1, true⟩).put g.nb ⟨evC e, 1, true⟩ = g1 at hkz hg1 ⊢
      have hgs1 := hgs.keep hkz hgs.1.1
      have hrd1 : g1.read g.nb 0 6 = some (evC e) := by
        unfold HP.read
        rw [hg1]
        rfl
      refine CodeR.seq (CodeR.region ?_)
      simp [OpR, xwant, lightK, lop, evl, flat, flat0, putT, thenR, List.range, List.range.loop, Tryz.underlying46, hi46, hs46, aggD, hrd1, isLen, isMM, callAt, isApp, isFn, evls]
      obtain ⟨st, -, hgood⟩ := hgs1.2.2.2
      have A := take_r (s := (goP D K (L.take i) ps0).2) hgs1.2.2.1 hgood.bd (by omega) hgood.it.m e (hgs1.pop hr hev)
      refine A.mono ?_
      rintro u g2 ⟨hk2, hu, hm2⟩
      rcases hgs1.next hr hev hk2 hu hm2 with ⟨rfl, hgs2⟩ | ⟨x, hx0, rfl, hgx⟩
      · refine CodeR.seq (CodeR.region ?_)
        simp [OpR, xwant, lightK, lop, evl, flat, flat0, putT, thenR, List.range, List.range.loop]
        simp only [nilEq_int]
        rw [lp_neq (k := .i64) (a := 0) (b := 0) rfl rfl]
        simp [OpR]
        refine CodeR.cond (b := false) (by simp [evl]) ?_
        simp only [Bool.false_eq_true, if_false]
        refine CodeR.skip ?_
        try simp only [thenR, blockR]
        refine CodeR.region ?_
        simp [OpR, xwant, lightK, lop, evl, flat, flat0, putT, thenR, List.range, List.range.loop]
        rw [lp_add (k := .i64) (a := (i : Nat)) (b := 1) rfl rfl]
        simp only [nilEq_int]
        have hwr : IntKind.i64.wrap ((i : Int) + 1) = ((i + 1 : Nat) : Int) := by rw [IntWalk.i64_in _ (by omega)]; omega
        rw [hwr]
        exact ⟨L.length - (i + 1), by omega, i + 1, by omega, rfl, rfl, hgs2⟩
      · refine CodeR.seq (CodeR.region ?_)
        simp [OpR, xwant, lightK, lop, evl, flat, flat0, putT, thenR, List.range, List.range.loop]
        simp only [nilEq_int]
        rw [lp_neq (k := .i64) (a := x) (b := 0) rfl rfl]
        simp [OpR]
        refine CodeR.cond (b := true) (by simp [evl, hx0]) ?_
        simp only [if_true]
        have hgr : g2.get h.nb = some ⟨[.slice none 0 0, .slice none 0 0], 1, true⟩ := by
          rw [hk2.2 h.nb (by omega), hgs1.1.2 h.nb (by omega)]
          exact hg0
        have hw3 : g2.write h.nb 0 [.slice none 0 0, .slice none 0 0] = some (g2.put h.nb ⟨[.slice none 0 0, .slice none 0 0], 1, true⟩) := by
          unfold HP.write
          rw [hgr]
          rfl
        refine CodeR.seq (CodeR.region ?_)
        simp [OpR, xwant, lightK, lop, evl, flat, flat0, putT, thenR, List.range, List.range.loop, callAt, isApp, evps, zero28, bld28]
        rw [if_pos (show isCell (.slice none 0 0) = true from rfl)]
        dsimp only
        rw [hop_store (b := h.nb) (off := 0) (v := .agg #[.slice none 0 0, .slice none 0 0]) (cs := [.slice none 0 0, .slice none 0 0]) hi28 rfl rfl rfl (by rw [hs28]; rfl) rfl hw3]
        dsimp only
        refine CodeR.ret ?_
        try simp only [thenR, blockR]
        have hp : graphP L depth nodes = (x, [], []) := by
          unfold graphP
          rw [hr, if_pos rfl]
          dsimp only
          rw [hDe, hKe]
          show (if (goP D K L ps0).1 = 0 then _ else _) = _
          rw [hgx, if_neg hx0]
          show ((goP D K L ps0).1, ([] : List Nd), ([] : List Int)) = _
          rw [hgx]
        refine hQ _ _ _ [.agg #[.slice none 0 0, .slice none 0 0], .int .i64 x] (.inr rfl) (xres9 rfl (get_put_same hgr _) rfl) (.inr ⟨by simp, rfl, ⟨?_, fun k hk => ?_⟩, .slice none 0 0, .slice none 0 0, ?_⟩)
        · have := hk2.1; have := hgs1.1.1; show h.nb ≤ g2.nb; omega
        · rw [get_put_ne hgr _ (by omega), hk2.2 k (by omega), hgs1.1.2 k (by omega)]
          exact hk0.2 k hk
        · rw [hp]
          exact ⟨rfl, GrAt.nil _⟩
    · refine CodeR.cond (b := false) (by simp [evl, hlt]) ?_
      simp only [Bool.false_eq_true, if_false]
      refine CodeR.exit ?_
      simp [thenR, blockR]
      have hiL : i = L.length := by omega
      subst hiL
      obtain ⟨q1, q2, ⟨q3, ns, rs, os, mp, on, r, oo, kv, oks, hk, hl⟩, q4⟩ := hgs
      rw [List.take_length] at q2 hk
      have hgr : g.get h.nb = some ⟨[.slice none 0 0, .slice none 0 0], 1, true⟩ := by
        rw [q1.2 h.nb (by omega)]
        exact hg0
      have hrd2 : g.read h1.nb 0 2 = some [ns, rs] := by
        unfold HP.read
        rw [hk.cells]
        rfl
      have hcn : ∃ pn cn, ns = .slice pn (goP D K L ps0).2.N.length cn := lst_slice hk.nodes
      have hcr : ∃ pr cr, rs = .slice pr (goP D K L ps0).2.R.length cr := lst_slice hk.roots
      obtain ⟨pn, cn, rfl⟩ := hcn
      obtain ⟨pr, cr, rfl⟩ := hcr
      have hw3 : g.write h.nb 0 [.slice pn (goP D K L ps0).2.N.length cn, .slice pr (goP D K L ps0).2.R.length cr] = some (g.put h.nb ⟨[.slice pn (goP D K L ps0).2.N.length cn, .slice pr (goP D K L ps0).2.R.length cr], 1, true⟩) := by
        unfold HP.write
        rw [hgr]
        rfl
      refine CodeR.seq (CodeR.region ?_)
      simp [OpR, xwant, lightK, lop, evl, flat, flat0, putT, thenR, List.range, List.range.loop, Tryz.underlying60, Tryz.underlying28, hi28, hs28, aggD, hrd2, isLen, isMM, callAt, isApp, isFn, evls]
      rw [hop_store (b := h.nb) (off := 0) (v := .agg #[.slice pn (goP D K L ps0).2.N.length cn, .slice pr (goP D K L ps0).2.R.length cr]) (cs := [.slice pn (goP D K L ps0).2.N.length cn, .slice pr (goP D K L ps0).2.R.length cr]) hi28 rfl rfl rfl (by rw [hs28]; rfl) rfl hw3]
      dsimp only
      refine CodeR.ret ?_
      try simp only [thenR, blockR]
      have hp : graphP L depth nodes = (0, (goP D K L ps0).2.N, (goP D K L ps0).2.R) := by
        unfold graphP
        rw [hr, if_pos rfl]
        dsimp only
        rw [hDe, hKe]
        show (if (goP D K L ps0).1 = 0 then _ else _) = _
        rw [if_pos q2]
        rfl
      have hk9 := hk.else (h' := g.put h.nb ⟨[.slice pn (goP D K L ps0).2.N.length cn, .slice pr (goP D K L ps0).2.R.length cr], 1, true⟩) (l := [h.nb]) ⟨Nat.le_refl _, fun k hk hkl => get_put_ne hgr _ (by simpa using hkl)⟩ (fun b hb hm => by
        have := hl b hb
        rw [List.mem_singleton.1 hm] at this
        omega)
      refine hQ _ _ _ [.agg #[.slice pn (goP D K L ps0).2.N.length cn, .slice pr (goP D K L ps0).2.R.length cr], .int .i64 0] (.inr rfl) (xres9 rfl (get_put_same hgr _) rfl) (.inr ⟨by simp, rfl, ⟨?_, fun k hk => ?_⟩, .slice pn (goP D K L ps0).2.N.length cn, .slice pr (goP D K L ps0).2.R.length cr, ?_⟩)
      · have := q1.1; show h.nb ≤ g.nb; omega
      · rw [get_put_ne hgr _ (by omega), q1.2 k (by omega)]
        exact hk0.2 k hk
      · rw [hp]
        exact ⟨rfl, on, r, kv, oks, hk9.nodes, hk9.roots, hk9.lk, hk9.lo, hk9.kids⟩
end Go.Proofs.YteeanpfhngoobaaGreat.Xk
