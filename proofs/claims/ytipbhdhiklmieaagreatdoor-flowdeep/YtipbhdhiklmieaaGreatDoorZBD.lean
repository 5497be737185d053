/- Brackets and braces in each other, in plain terms. -/
import Derived.Test.YtipbhdhiklmieaaGreatDoorZBC
set_option linter.unusedVariables false
set_option linter.unusedSimpArgs false
namespace Go.Proofs.YtipbhdhiklmieaaGreatDoor
open Go.RowKit Go.Shelf
open P3 (endP upTo_none cuts_last linesP lineP pieceOf cutsAt inP)

theorem lps_one {t : List Int} (h0 : 0 < t.length) (hn : ∀ j, j < t.length → endP (iAt t j) = false) (h32 : iAt t 0 ≠ 32) : lpsO t = [⟨0, t⟩] := by
 have hu := upTo_none (t := t) (f := 0) (Nat.zero_le _) (fun j _ hj => hn j hj)
 have hc : cutsAt t 0 = [(0, t.length)] := by
  have := cuts_last (l := t) (k := 0) h0 (by rw [hu]; omega)
  simpa using this
 have hi : inP t = 0 := by
  refine P10.run_eq _ _ 0 (Nat.zero_le _) (fun j hj => by omega) (fun _ => ?_)
  show decide (iAt t 0 = 32) = false
  simpa using h32
 unfold lpsO linesP
 rw [hc]
 simp [lineP, pieceOf, hi]
section
variable {t : List Int} {d : Int}
def one (t : List Int) : List Lp := [⟨0, t⟩]
theorem rst_one (t : List Int) (k : Nat) : rst (one t) ⟨0, k⟩ = t.drop k := rfl
theorem hd_one {k : Nat} (hk : k < t.length) : hd (one t) ⟨0, k⟩ = iAt t k := by
 show (t.drop k).headD 0 = iAt t k
 simp [iAt, List.headD_eq_head?_getD, List.head?_drop]
theorem past_here {k : Nat} (hk : k < t.length) (hb : blankP (iAt t k) = false) : orc.past (t.drop k) = 0 := by
 show P10.run blankP (t.drop k) = 0
 refine P10.run_eq _ _ 0 (Nat.zero_le _) (fun j hj => by omega) (fun _ => ?_)
 have : iAt (t.drop k) 0 = iAt t k := by simp [iAt]
 rw [this]
 exact hb
theorem nex_here {k : Nat} (hk : k < t.length) (hb : blankP (iAt t k) = false) (h35 : iAt t k ≠ 35) (n : Int) : nexW orc (one t) n ⟨0, k⟩ = .ok (some ⟨0, k⟩) := by
 have hp : pasW orc (one t) ⟨0, k⟩ = ⟨0, k⟩ := by
  show Pl.plus ⟨0, k⟩ (orc.past (rst (one t) ⟨0, k⟩)) = _
  rw [rst_one, past_here hk hb]
  rfl
 have hl : linW orc (one t) ⟨0, k⟩ = false := by
  unfold linW
  rw [hd_one hk, rst_one]
  have hz : decide ((t.drop k).length = 0) = false := decide_eq_false (by rw [List.length_drop]; omega)
  have h3 : decide (iAt t k = 35) = false := decide_eq_false h35
  rw [hz, h3]
  rfl
 show nexF orc (one t) n 1 ⟨0, k⟩ true = _
 rw [nexF]
 split
 ·rename_i h
  exact absurd h (by simp [one])
 ·rename_i x h
  rw [if_neg (by simp), hp, hl]
  simp
theorem sta_here {k : Nat} {c : Int} (hk : k < t.length) : staW (one t) ⟨0, k⟩ c = decide (iAt t k = c) := by
 unfold staW
 rw [hd_one hk, rst_one]
 have hz : decide (0 < (t.drop k).length) = true := decide_eq_true (by rw [List.length_drop]; omega)
 rw [hz]
 rfl
theorem gon_here {k : Nat} (hk : k < t.length) (hb : blankP (iAt t k) = false) (h35 : iAt t k ≠ 35) (n : Int) : gonW orc (one t) n ⟨0, k⟩ = .ok ⟨0, k⟩ := by
 unfold gonW
 rw [nex_here hk hb h35]
theorem alo_no {k : Nat} {c : Int} (hk : k < t.length) (h : iAt t k ≠ c) : aloW orc (one t) ⟨0, k⟩ c = false := by
 unfold aloW
 rw [sta_here hk]
 simp [h]
theorem beg_open {k : Nat} {c : Int} (hk : k < t.length) (hc : iAt t k = c) (h : c = 91 ∨ c = 123) (s : St) (hp : s.p = ⟨0, k⟩) (n : Int) : begW orc (one t) n d false s = opeW d s hs0 c := by
 have hb : blankP (iAt t k) = false := by rw [hc]; rcases h with rfl | rfl <;> decide
 have h35 : iAt t k ≠ 35 := by rw [hc]; rcases h with rfl | rfl <;> decide
 have e : proF orc (one t) n 3 s.p hs0 = .ok (hs0, true, ⟨0, k⟩) := by
  rw [hp, proF, nex_here hk hb h35]
  simp only [hd_one hk, hc]
  rcases h with rfl | rfl <;> rfl
 have hs : ({ s with p := ⟨0, k⟩ } : St) = s := by rw [← hp]
 unfold begW
 rw [e]
 simp only [hd_one hk, hc, hs]
 rcases h with rfl | rfl <;> rfl
def Lv1 (l : Lv) : Prop := l.cl = 93 ∧ l.pr = false ∧ l.nx = 1
theorem sgn_no {k : Nat} (hk : k < t.length) (h : iAt t k ≠ 58) (s : St) : sgnW orc (one t) s ⟨0, k⟩ = false := by
 unfold sgnW
 rw [alo_no hk h, sta_here hk, decide_eq_false h]
 rfl
theorem run_two {s s1 s2 : St} {l l1 : Lv} {r r1 : List Lv} {n : Int} {f : Nat} (h : s.op = l :: r) (h1 : s1.op = l1 :: r1) (e : stpW orc (one t) n d false s = .ok s1) (e1 : stpW orc (one t) n d false s1 = .ok s2) : runW orc (one t) n d false (f + 2) s = runW orc (one t) n d false f s2 := by
 rw [runW, h]
 dsimp only
 rw [e]
 dsimp only
 rw [runW, h1]
 dsimp only
 rw [e1]
theorem close_one {k : Nat} (hk : k < t.length) (hc : iAt t k = 93) {s : St} {l : Lv} {r : List Lv} (hp : s.p = ⟨0, k⟩) (hop : s.op = l :: r) (hl : Lv1 l) (f : Nat) (n : Int) :
  ∃ s2, runW orc (one t) n d false (f + 2) s = runW orc (one t) n d false f s2 ∧ s2.p = ⟨0, k + 1⟩ ∧ s2.op.length = r.length ∧ ((∀ x ∈ r, Lv1 x) → ∀ x ∈ s2.op, Lv1 x) := by
 have hb : blankP (iAt t k) = false := by rw [hc]; decide
 have h35 : iAt t k ≠ 35 := by rw [hc]; decide
 obtain ⟨l1, l2, l3⟩ := hl
 have e1 : stpW orc (one t) n d false s = .ok (topS s fun l => { l with nx := 4 }) := by
  unfold stpW
  rw [hop]
  dsimp only
  rw [if_neg (by rw [l3]; decide), if_pos l3]
  unfold iteW
  rw [hp, nex_here hk hb h35]
  dsimp only
  rw [if_pos (.inl (sgn_no hk (by rw [hc]; decide) s))]
 have h2 : (topS s fun l => { l with nx := 4 }).op = { l with nx := 4 } :: r := by unfold topS; rw [hop]
 have hp2 : (topS s fun l => { l with nx := 4 }).p = ⟨0, k⟩ := hp
 generalize (topS s fun l => { l with nx := 4 }) = s1 at e1 h2 hp2
 have e2 : stpW orc (one t) n d false s1 = .ok (cloS { s1 with p := ⟨0, k + 1⟩ }) := by
  have e0 : stpW orc (one t) n d false s1 = comW orc (one t) n s1 { l with nx := 4 } := by
   unfold stpW
   rw [h2]
   dsimp only
   rw [if_neg (by decide), if_neg (by decide), if_neg (by decide), if_neg (by decide)]
  rw [e0]
  unfold comW
  rw [hp2, gon_here hk hb h35]
  dsimp only
  rw [sta_here hk, sta_here hk, hc, l1]
  rfl
 refine ⟨_, run_two hop h2 e1 e2, ?_, ?_, ?_⟩
 ·unfold cloS
  dsimp only
  rw [h2]
  rfl
 ·unfold cloS
  dsimp only
  rw [h2]
  unfold telW
  cases r <;> rfl
 ·intro hr x hx
  unfold cloS at hx
  dsimp only at hx
  rw [h2] at hx
  unfold telW at hx
  cases r with
  | nil => simp at hx
  | cons y r =>
   dsimp only at hx
   rcases List.mem_cons.1 hx with rfl | hx
   ·exact hr y (by simp)
   ·exact hr x (by simp [hx])
theorem close_all (n : Int) : ∀ (j k : Nat) (s : St), s.p = ⟨0, k⟩ → s.op.length = j → (∀ x ∈ s.op, Lv1 x) → k + j ≤ t.length → (∀ i, k ≤ i → i < k + j → iAt t i = 93) → ∃ s', runW orc (one t) n d false (2 * j) s = some (.ok s') ∧ s'.p = ⟨0, k + j⟩
 | 0, k, s, hp, hl, _, _, _ => by
  refine ⟨s, ?_, hp⟩
  have : s.op = [] := List.eq_nil_of_length_eq_zero hl
  rw [runW, this]
 | j + 1, k, s, hp, hl, hv, hk, hc => by
  cases hop : s.op with
  | nil => rw [hop] at hl; simp at hl
  | cons l r =>
   rw [hop] at hl hv
   obtain ⟨s2, e, h1, h2, h3⟩ := close_one (t := t) (d := d) (k := k) (by omega) (hc k (Nat.le_refl _) (by omega)) hp hop (hv l (by simp)) (2 * j) n
   obtain ⟨s', e', hp'⟩ := close_all n j (k + 1) s2 h1 (by rw [h2]; simpa using hl) (h3 fun x hx => hv x (by simp [hx])) (by omega) (fun i a b => hc i (by omega) (by omega))
   refine ⟨s', ?_, by rw [hp']; congr 1; omega⟩
   rw [show 2 * (j + 1) = 2 * j + 2 by omega, e]
   exact e'
end
end Go.Proofs.YtipbhdhiklmieaaGreatDoor
namespace Go.Proofs.YtipbhdhiklmieaaGreatDoor
open Go.RowKit Go.Shelf
open P3 (endP)
section
variable {t : List Int} {d : Int}
def Lv0 (l : Lv) : Prop := l.cl = 93 ∧ l.pr = false ∧ l.nx = 0
theorem open_step {j : Nat} (hj : j < t.length) (hc : iAt t j = 91) {s : St} {l : Lv} {r : List Lv} (hp : s.p = ⟨0, j⟩) (hop : s.op = l :: r) (hl : Lv0 l) (n : Int) :
  (d + ((r.length + 1 : Nat) : Int) ≥ 200 → stpW orc (one t) n d false s = .error 8) ∧
  (¬ d + ((r.length + 1 : Nat) : Int) ≥ 200 → ∃ s2 l2 l3, stpW orc (one t) n d false s = .ok s2 ∧ s2.p = ⟨0, j + 1⟩ ∧ s2.op = l2 :: l3 :: r ∧ Lv0 l2 ∧ Lv1 l3) := by
 have hb : blankP (iAt t j) = false := by rw [hc]; decide
 have h35 : iAt t j ≠ 35 := by rw [hc]; decide
 obtain ⟨l1, l2, l3⟩ := hl
 have e : stpW orc (one t) n d false s = opeW d { topS s (fun l => { l with nx := 1, bi := 0, bk := j, ho := s.to.length }) with to := s.to ++ [ev0] } hs0 91 := by
  have e0 : stpW orc (one t) n d false s = entW orc (one t) n d false s l := by
   unfold stpW
   rw [hop]
   dsimp only
   rw [if_pos l3]
  rw [e0]
  unfold entW
  rw [hp, gon_here hj hb h35]
  dsimp only
  rw [sta_here hj, hc, l1, alo_no hj (by rw [hc]; decide)]
  rw [if_neg (by decide), if_neg (by decide), if_neg (by decide)]
  have hs : ({ s with p := ⟨0, j⟩ } : St) = s := by rw [← hp]
  rw [beg_open hj hc (.inl rfl) _ rfl]
  unfold topS
  rw [hp]
 have hlen : ({ topS s (fun l => { l with nx := 1, bi := 0, bk := j, ho := s.to.length }) with to := s.to ++ [ev0] } : St).op = { l with nx := 1, bi := 0, bk := j, ho := s.to.length } :: r := by
  show (topS s _).op = _
  unfold topS
  rw [hop]
 have hpp : ({ topS s (fun l => { l with nx := 1, bi := 0, bk := j, ho := s.to.length }) with to := s.to ++ [ev0] } : St).p = ⟨0, j⟩ := hp
 generalize ({ topS s (fun l => { l with nx := 1, bi := 0, bk := j, ho := s.to.length }) with to := s.to ++ [ev0] } : St) = s1 at e hlen hpp
 have hd : deeW d s1 0 = decide (d + ((r.length + 1 : Nat) : Int) ≥ 200) := by
  unfold deeW
  rw [hlen]
  simp
 constructor
 ·intro h
  rw [e]
  unfold opeW
  rw [hd, decide_eq_true h]
  rfl
 ·intro h
  refine ⟨{ s1 with p := s1.p.plus 1, to := s1.to ++ [⟨3, ⟨#[]⟩, hs0.tg, hs0.an, 0, true⟩], op := ⟨93, false, 0, 0, 0, 0, 0⟩ :: s1.op }, ⟨93, false, 0, 0, 0, 0, 0⟩, { l with nx := 1, bi := 0, bk := j, ho := s.to.length }, ?_, ?_, ?_, ?_, ?_⟩
  ·rw [e]
   unfold opeW
   rw [hd, decide_eq_false h]
   rfl
  ·show s1.p.plus 1 = _
   rw [hpp]
   rfl
  ·show (⟨93, false, 0, 0, 0, 0, 0⟩ : Lv) :: s1.op = _
   rw [hlen]
  ·exact ⟨rfl, rfl, rfl⟩
  ·exact ⟨l1, l2, rfl⟩
theorem close_first {k : Nat} (hk : k < t.length) (hc : iAt t k = 93) {s : St} {l : Lv} {r : List Lv} (hp : s.p = ⟨0, k⟩) (hop : s.op = l :: r) (hl : Lv0 l) (n : Int) :
  ∃ s2, stpW orc (one t) n d false s = .ok s2 ∧ s2.p = ⟨0, k + 1⟩ ∧ s2.op.length = r.length ∧ ((∀ x ∈ r, Lv1 x) → ∀ x ∈ s2.op, Lv1 x) := by
 have hb : blankP (iAt t k) = false := by rw [hc]; decide
 have h35 : iAt t k ≠ 35 := by rw [hc]; decide
 obtain ⟨l1, l2, l3⟩ := hl
 have e : stpW orc (one t) n d false s = .ok (cloS { s with p := ⟨0, k + 1⟩ }) := by
  have e0 : stpW orc (one t) n d false s = entW orc (one t) n d false s l := by
   unfold stpW
   rw [hop]
   dsimp only
   rw [if_pos l3]
  rw [e0]
  unfold entW
  rw [hp, gon_here hk hb h35]
  dsimp only
  rw [sta_here hk, hc, l1]
  rfl
 refine ⟨_, e, ?_, ?_, ?_⟩
 ·unfold cloS
  dsimp only
  rw [hop]
  rfl
 ·unfold cloS
  dsimp only
  rw [hop]
  unfold telW
  cases r <;> rfl
 ·intro hr x hx
  unfold cloS at hx
  dsimp only at hx
  rw [hop] at hx
  unfold telW at hx
  cases r with
  | nil => simp at hx
  | cons y r =>
   dsimp only at hx
   rcases List.mem_cons.1 hx with rfl | hx
   ·exact hr y (by simp)
   ·exact hr x (by simp [hx])
theorem run_one {s s1 : St} {l : Lv} {r : List Lv} {n : Int} {f : Nat} (h : s.op = l :: r) (e : stpW orc (one t) n d false s = .ok s1) : runW orc (one t) n d false (f + 1) s = runW orc (one t) n d false f s1 := by
 rw [runW, h]
 dsimp only
 rw [e]
theorem open_all {N : Nat} (hN : t.length = 2 * N) (hA : ∀ i, i < N → iAt t i = 91) (hB : ∀ i, N ≤ i → i < 2 * N → iAt t i = 93) (n : Int) : ∀ (m j : Nat) (s : St) (l : Lv) (r : List Lv), j + m = N → 0 < j → s.p = ⟨0, j⟩ → s.op = l :: r → Lv0 l → (∀ x ∈ r, Lv1 x) → r.length + 1 = j → d + (j : Int) ≤ 200 →
  ((N : Int) + d > 200 → ∃ f, runW orc (one t) n d false f s = some (.error 8)) ∧ ((N : Int) + d ≤ 200 → ∃ f s', runW orc (one t) n d false f s = some (.ok s') ∧ s'.p = ⟨0, 2 * N⟩)
 | 0, j, s, l, r, hm, h0, hp, hop, hl, hr, hj, hd => by
  refine ⟨fun h => absurd h (by omega), fun _ => ?_⟩
  obtain ⟨s2, e, p2, o2, v2⟩ := close_first (t := t) (d := d) (k := j) (by omega) (hB j (by omega) (by omega)) hp hop hl n
  obtain ⟨s', e', p'⟩ := close_all (t := t) (d := d) n (j - 1) (j + 1) s2 p2 (by rw [o2]; omega) (v2 hr) (by omega) (fun i a b => hB i (by omega) (by omega))
  refine ⟨2 * (j - 1) + 1, s', ?_, by rw [p']; congr 1; omega⟩
  rw [run_one hop e]
  exact e'
 | m + 1, j, s, l, r, hm, h0, hp, hop, hl, hr, hj, hd => by
  obtain ⟨h1, h2⟩ := open_step (t := t) (d := d) (j := j) (by omega) (hA j (by omega)) hp hop hl n
  rw [hj] at h1 h2
  by_cases hx : d + (j : Int) ≥ 200
  ·refine ⟨fun _ => ⟨1, ?_⟩, fun h => absurd h (by omega)⟩
   rw [runW, hop]
   dsimp only
   rw [h1 hx]
  ·obtain ⟨s2, l2, l3, e, p2, o2, v2, v3⟩ := h2 hx
   obtain ⟨a, b⟩ := open_all hN hA hB n m (j + 1) s2 l2 (l3 :: r) (by omega) (by omega) p2 o2 v2 (fun x hx => by rcases List.mem_cons.1 hx with rfl | hx; exact v3; exact hr x hx) (by simp; omega) (by push_cast; omega)
   refine ⟨fun h => ?_, fun h => ?_⟩
   ·obtain ⟨f, hf⟩ := a h
    exact ⟨f + 1, by rw [run_one hop e]; exact hf⟩
   ·obtain ⟨f, s', hf, hp'⟩ := b h
    exact ⟨f + 1, s', by rw [run_one hop e]; exact hf, hp'⟩
end
def brkT (n : Nat) : List Int := List.replicate n 91 ++ List.replicate n 93
theorem brk_len (n : Nat) : (brkT n).length = 2 * n := by unfold brkT; simp; omega
theorem brk_a {n i : Nat} (h : i < n) : iAt (brkT n) i = 91 := by
 unfold iAt brkT
 rw [List.getElem?_append_left (by simpa using h)]
 simp [h]
theorem brk_b {n i : Nat} (h : n ≤ i) (h2 : i < 2 * n) : iAt (brkT n) i = 93 := by
 unfold iAt brkT
 rw [List.getElem?_append_right (by simpa using h)]
 have : i - n < n := by omega
 simp [this]
theorem deep_brk (n : Nat) (d : Int) (hn : 0 < n) : ((n : Int) + d > 200 → ∃ f, ansW (brkT n) d f = some (8, 0, 0, [])) ∧ ((n : Int) + d ≤ 200 → ∃ f ev, ansW (brkT n) d f = some (0, 0, ((2 * n : Nat) : Int), ev)) := by
 have hl := brk_len n
 have hone : lpsO (brkT n) = one (brkT n) := lps_one (by omega) (fun j hj => by
  by_cases h : j < n
  ·rw [brk_a h]; decide
  ·rw [brk_b (by omega) (by omega)]; decide) (by rw [brk_a hn]; decide)
 have hpl : plcP (one (brkT n)) 0 0 = some ⟨0, 0⟩ := by
  unfold plcP one
  simp
 have hb : begW orc (one (brkT n)) (-1) d false ⟨⟨0, 0⟩, [], [], 0⟩ = opeW d ⟨⟨0, 0⟩, [], [], 0⟩ hs0 91 := beg_open (by omega) (brk_a hn) (.inl rfl) _ rfl (-1)
 by_cases hd : d ≥ 200
 ·refine ⟨fun _ => ⟨0, ?_⟩, fun h => absurd h (by omega)⟩
  unfold ansW
  rw [hone, hpl]
  dsimp only
  unfold nodW
  rw [hb]
  unfold opeW deeW
  simp [hd]
 ·have hop : opeW d ⟨⟨0, 0⟩, [], [], 0⟩ hs0 91 = .ok ⟨⟨0, 1⟩, [⟨93, false, 0, 0, 0, 0, 0⟩], [⟨3, ⟨#[]⟩, hs0.tg, hs0.an, 0, true⟩], 0⟩ := by
   unfold opeW deeW
   simp [hd, Pl.plus]
  obtain ⟨a, b⟩ := open_all (t := brkT n) (d := d) hl (fun i h => brk_a h) (fun i h h2 => brk_b h h2) (-1) (n - 1) 1 ⟨⟨0, 1⟩, [⟨93, false, 0, 0, 0, 0, 0⟩], [⟨3, ⟨#[]⟩, hs0.tg, hs0.an, 0, true⟩], 0⟩ _ _ (by omega) (by omega) rfl rfl ⟨rfl, rfl, rfl⟩ (fun x hx => by cases hx) rfl (by push_cast; omega)
  refine ⟨fun h => ?_, fun h => ?_⟩
  ·obtain ⟨f, hf⟩ := a h
   refine ⟨f, ?_⟩
   unfold ansW
   rw [hone, hpl]
   dsimp only
   unfold nodW
   rw [hb, hop]
   dsimp only
   rw [hf]
  ·obtain ⟨f, s', hf, hp⟩ := b h
   refine ⟨f, s'.to.filter nz, ?_⟩
   unfold ansW
   rw [hone, hpl]
   dsimp only
   unfold nodW
   rw [hb, hop]
   dsimp only
   rw [hf]
   dsimp only
   rw [hp]
   simp [colW, one]
end Go.Proofs.YtipbhdhiklmieaaGreatDoor
namespace Go.Proofs.YtipbhdhiklmieaaGreatDoor
open Go.RowKit Go.Shelf
open P3 (endP)

theorem end_a (X : List Int) : P9.endP (97 :: 58 :: 32 :: X) true = 1 := by
 unfold P9.endP P9.stopP
 rw [show (97 :: 58 :: 32 :: X : List Int).length = (X.length + 1) + 1 + 1 by simp]
 have e0 : P9.enAt (97 :: 58 :: 32 :: X) true 0 = false := by
  show P9.enP 10 97 (P9.bhP (97 :: 58 :: 32 :: X) 0) true = false
  unfold P9.enP
  rw [if_neg (by decide), if_neg (by decide)]
  decide
 have e1 : P9.enAt (97 :: 58 :: 32 :: X) true 1 = true := by
  have hb : P9.bhP (97 :: 58 :: 32 :: X) 1 = 32 := by
   unfold P9.bhP
   rw [if_pos (by simp)]
   rfl
  show P9.enP _ 58 (P9.bhP (97 :: 58 :: 32 :: X) 1) true = true
  rw [hb]
  unfold P9.enP
  rw [if_pos rfl]
  decide
 rw [P9.stopF, if_neg (by rw [e0]; decide), P9.stopF, if_pos e1, P9.trimP]
 rw [if_neg (by show ¬ blankP 97 = true; decide)]
theorem beg_a (X : List Int) : P9.begP (97 :: 58 :: 32 :: X) true = true := by
 unfold P9.begP
 have h0 : iAt (97 :: 58 :: 32 :: X) 0 = 97 := rfl
 rw [h0, if_neg (by decide)]
 have h1 : decide (0 < (97 :: 58 :: 32 :: X : List Int).length) = true := decide_eq_true (by simp)
 rw [h1]
 decide
section
variable {t : List Int} {d : Int}
theorem drop_three {k : Nat} {a b c : Int} (hk : k + 2 < t.length) (h0 : iAt t k = a) (h1 : iAt t (k + 1) = b) (h2 : iAt t (k + 2) = c) : t.drop k = a :: b :: c :: t.drop (k + 3) := by
 have e (j : Nat) (hj : j < t.length) : t.drop j = iAt t j :: t.drop (j + 1) := by
  rw [List.drop_eq_getElem_cons hj]
  simp [iAt, hj]
 rw [e k (by omega), e (k + 1) (by omega), e (k + 2) (by omega), h0, h1, h2]
def Lb (m : Nat) (l : Lv) : Prop := l.cl = 125 ∧ l.pr = false ∧ l.nx = m
theorem nex_blank {k : Nat} (hk : k + 1 < t.length) (h : iAt t k = 32) (hb : blankP (iAt t (k + 1)) = false) (h35 : iAt t (k + 1) ≠ 35) (n : Int) : nexW orc (one t) n ⟨0, k⟩ = .ok (some ⟨0, k + 1⟩) := by
 have hpa : orc.past (t.drop k) = 1 := by
  show P10.run blankP (t.drop k) = 1
  refine P10.run_eq _ _ 1 (by rw [List.length_drop]; omega) (fun j hj => ?_) (fun _ => ?_)
  ·have : iAt (t.drop k) j = iAt t k := by
    obtain rfl : j = 0 := by omega
    simp [iAt]
   rw [this, h]
   decide
  ·have : iAt (t.drop k) 1 = iAt t (k + 1) := by simp [iAt]
   rw [this]
   exact hb
 have hp : pasW orc (one t) ⟨0, k⟩ = ⟨0, k + 1⟩ := by
  show Pl.plus ⟨0, k⟩ (orc.past (rst (one t) ⟨0, k⟩)) = _
  rw [rst_one, hpa]
  rfl
 have hl : linW orc (one t) ⟨0, k + 1⟩ = false := by
  unfold linW
  rw [hd_one hk, rst_one]
  have hz : decide ((t.drop (k + 1)).length = 0) = false := decide_eq_false (by rw [List.length_drop]; omega)
  have h3 : decide (iAt t (k + 1) = 35) = false := decide_eq_false h35
  rw [hz, h3]
  rfl
 show nexF orc (one t) n 1 ⟨0, k⟩ true = _
 rw [nexF]
 split
 ·rename_i h
  exact absurd h (by simp [one])
 ·rename_i x h
  rw [if_neg (by simp), hp, hl]
  simp
theorem pln_a {k : Nat} (hk : k + 2 < t.length) (h0 : iAt t k = 97) (h1 : iAt t (k + 1) = 58) (h2 : iAt t (k + 2) = 32) (n : Int) : plnF orc (one t) n true 2 ⟨0, k⟩ ⟨0, k⟩ [] = ([[97]], ⟨0, k + 1⟩) := by
 have hd3 := drop_three hk h0 h1 h2
 have he : orc.pEnd true (t.drop k) = 1 := by rw [hd3]; exact end_a (t.drop (k + 3))
 have hf : furW orc (one t) n true ⟨0, k + 1⟩ = none := by
  show furF orc (one t) n true ⟨0, k + 1⟩ 1 ⟨0, k + 1⟩ = none
  rw [furF]
  have hp : pasW orc (one t) ⟨0, k + 1⟩ = ⟨0, k + 1⟩ := by
   show Pl.plus ⟨0, k + 1⟩ (orc.past (rst (one t) ⟨0, k + 1⟩)) = _
   rw [rst_one, past_here (by omega) (by rw [h1]; decide)]
   rfl
  split
  ·rfl
  ·rw [hp, rst_one, if_neg (by rw [List.length_drop]; omega), if_pos (.inl rfl)]
 rw [plnF]
 simp only [rst_one, he]
 have : (⟨0, k⟩ : Pl).plus 1 = ⟨0, k + 1⟩ := rfl
 rw [this, hf]
 simp [hd3]
theorem entry_a {k : Nat} (hk : k + 2 < t.length) (h0 : iAt t k = 97) (h1 : iAt t (k + 1) = 58) (h2 : iAt t (k + 2) = 32) {s : St} {l : Lv} {r : List Lv} (hp : s.p = ⟨0, k⟩) (hop : s.op = l :: r) (hl : Lb 0 l) (n : Int) :
  ∃ s2 l2, stpW orc (one t) n d false s = .ok s2 ∧ s2.p = ⟨0, k + 1⟩ ∧ s2.op = l2 :: r ∧ Lb 2 l2 := by
 have hb : blankP (iAt t k) = false := by rw [h0]; decide
 have h35 : iAt t k ≠ 35 := by rw [h0]; decide
 have hkl : k < t.length := by omega
 obtain ⟨l1, l2, l3⟩ := hl
 obtain ⟨s1, hs1, hop1, hp1⟩ : ∃ s1 : St, s1 = (topS s fun l => { l with nx := 2 }) ∧ s1.op = { l with nx := 2 } :: r ∧ s1.p = ⟨0, k⟩ := ⟨_, rfl, by unfold topS; rw [hop], hp⟩
 have e : stpW orc (one t) n d false s = begW orc (one t) n d false s1 := by
  have e0 : stpW orc (one t) n d false s = entW orc (one t) n d false s l := by
   unfold stpW
   rw [hop]
   dsimp only
   rw [if_pos l3]
  rw [e0]
  unfold entW
  rw [hp, gon_here hkl hb h35]
  dsimp only
  rw [sta_here hkl, h0, l1, alo_no hkl (by rw [h0]; decide)]
  rw [if_neg (by decide), if_neg (by decide), if_pos rfl, hs1]
  unfold topS
  rw [hp]
 have ep : proF orc (one t) n 3 s1.p hs0 = .ok (hs0, true, ⟨0, k⟩) := by
  rw [hp1, proF, nex_here hkl hb h35]
  simp only [hd_one hkl, h0]
  rfl
 have hs : ({ s1 with p := ⟨0, k⟩ } : St) = s1 := by rw [← hp1]
 have eb : begW orc (one t) n d false s1 = .ok (scaW orc { s1 with p := ⟨0, k + 1⟩ } hs0 (orc.fold [[97]]) 1) := by
  unfold begW
  rw [ep]
  simp only [hd_one hkl, h0, hs]
  rw [if_neg (by decide), if_neg (by decide), if_neg (by decide)]
  have hw : (!false || decide (0 < s1.op.length)) = true := rfl
  rw [hw, rst_one, drop_three hk h0 h1 h2]
  rw [if_pos (show orc.begins true (97 :: 58 :: 32 :: t.drop (k + 3)) = true from beg_a (t.drop (k + 3)))]
  unfold plnW
  rw [hp1, show (one t).length + 1 = 2 from rfl, pln_a hk h0 h1 h2]
 rw [e, eb]
 refine ⟨_, { l with nx := 2, ta := max l.ta 0 }, rfl, rfl, ?_, l1, l2, rfl⟩
 unfold scaW telW
 dsimp only
 rw [hop1]
theorem value_a {k : Nat} {c : Int} (hk : k + 2 < t.length) (h0 : iAt t k = 58) (h1 : iAt t (k + 1) = 32) (h2 : iAt t (k + 2) = c) (hc : c = 123 ∨ c = 125) {s : St} {l : Lv} {r : List Lv} (hp : s.p = ⟨0, k⟩) (hop : s.op = l :: r) (hl : Lb 2 l) (n : Int) :
  ∃ s1 : St, s1.p = ⟨0, k + 2⟩ ∧ s1.op = { l with nx := 4 } :: r ∧ stpW orc (one t) n d false s = if c = 125 then .ok (empW orc s1 hs0) else begW orc (one t) n d false s1 := by
 have hb : blankP (iAt t k) = false := by rw [h0]; decide
 have h35 : iAt t k ≠ 35 := by rw [h0]; decide
 have hkl : k < t.length := by omega
 have hcb : blankP c = false := by rcases hc with rfl | rfl <;> decide
 have hc5 : c ≠ 35 := by rcases hc with rfl | rfl <;> decide
 have hc4 : ¬ c = 44 := by rcases hc with rfl | rfl <;> decide
 obtain ⟨l1, l2, l3⟩ := hl
 have e0 : stpW orc (one t) n d false s = valW orc (one t) n d false s l := by
  unfold stpW
  rw [hop]
  dsimp only
  rw [if_neg (by rw [l3]; decide), if_neg (by rw [l3]; decide), if_pos l3]
 have hal : aloW orc (one t) ⟨0, k⟩ 58 = true := by
  unfold aloW
  rw [sta_here hkl, h0]
  have hh : hd (one t) ((⟨0, k⟩ : Pl).plus 1) = 32 := by
   show hd (one t) ⟨0, k + 1⟩ = 32
   rw [hd_one (by omega), h1]
  rw [hh, show orc.name 32 = false by decide]
  simp
 have hsg : sgnW orc (one t) s ⟨0, k⟩ = true := by
  unfold sgnW
  rw [hal]
  rfl
 have hgo : gonW orc (one t) n ((⟨0, k⟩ : Pl).plus 1) = .ok ⟨0, k + 2⟩ := by
  show gonW orc (one t) n ⟨0, k + 1⟩ = _
  unfold gonW
  rw [nex_blank (by omega) h1 (by rw [h2]; exact hcb) (by rw [h2]; exact hc5)]
 have htop : (topS s fun l => { l with nx := if l.pr then 3 else 4 }) = { s with op := { l with nx := 4 } :: r } := by
  unfold topS
  rw [hop]
  simp [l2]
 refine ⟨{ s with op := { l with nx := 4 } :: r, p := ⟨0, k + 2⟩ }, rfl, rfl, ?_⟩
 rw [e0]
 unfold valW
 rw [hp, gon_here hkl hb h35]
 dsimp only
 rw [htop, hsg, if_neg (by decide), hgo]
 dsimp only
 unfold entEnds
 dsimp only
 rw [sta_here hk, sta_here hk, h2, l1, decide_eq_false hc4]
 by_cases h5 : c = 125
 ·rw [if_pos (by simp [h5]), if_pos h5]
 ·rw [if_neg (by simp [h5]), if_neg h5]
theorem close_b {k : Nat} (hk : k < t.length) (hc : iAt t k = 125) {s : St} {l : Lv} {r : List Lv} (hp : s.p = ⟨0, k⟩) (hop : s.op = l :: r) (hl : Lb 4 l) (n : Int) :
  ∃ s2, stpW orc (one t) n d false s = .ok s2 ∧ s2.p = ⟨0, k + 1⟩ ∧ s2.op.length = r.length ∧ ((∀ x ∈ r, Lb 4 x) → ∀ x ∈ s2.op, Lb 4 x) := by
 have hb : blankP (iAt t k) = false := by rw [hc]; decide
 have h35 : iAt t k ≠ 35 := by rw [hc]; decide
 obtain ⟨l1, l2, l3⟩ := hl
 have e : stpW orc (one t) n d false s = .ok (cloS { s with p := ⟨0, k + 1⟩ }) := by
  have e0 : stpW orc (one t) n d false s = comW orc (one t) n s l := by
   unfold stpW
   rw [hop]
   dsimp only
   rw [if_neg (by rw [l3]; decide), if_neg (by rw [l3]; decide), if_neg (by rw [l3]; decide), if_neg (by rw [l3]; decide)]
  rw [e0]
  unfold comW
  rw [hp, gon_here hk hb h35]
  dsimp only
  rw [sta_here hk, sta_here hk, hc, l1]
  rfl
 refine ⟨_, e, ?_, ?_, ?_⟩
 ·unfold cloS
  dsimp only
  rw [hop]
  rfl
 ·unfold cloS
  dsimp only
  rw [hop]
  unfold telW
  cases r <;> rfl
 ·intro hr x hx
  unfold cloS at hx
  dsimp only at hx
  rw [hop] at hx
  unfold telW at hx
  cases r with
  | nil => simp at hx
  | cons y r =>
   dsimp only at hx
   rcases List.mem_cons.1 hx with rfl | hx
   ·exact hr y (by simp)
   ·exact hr x (by simp [hx])
theorem shut_all (n : Int) : ∀ (j k : Nat) (s : St), s.p = ⟨0, k⟩ → s.op.length = j → (∀ x ∈ s.op, Lb 4 x) → k + j ≤ t.length → (∀ i, k ≤ i → i < k + j → iAt t i = 125) → ∃ s', runW orc (one t) n d false j s = some (.ok s') ∧ s'.p = ⟨0, k + j⟩
 | 0, k, s, hp, hl, _, _, _ => by
  refine ⟨s, ?_, hp⟩
  have : s.op = [] := List.eq_nil_of_length_eq_zero hl
  rw [runW, this]
 | j + 1, k, s, hp, hl, hv, hk, hc => by
  cases hop : s.op with
  | nil => rw [hop] at hl; simp at hl
  | cons l r =>
   rw [hop] at hl hv
   obtain ⟨s2, e, h1, h2, h3⟩ := close_b (t := t) (d := d) (k := k) (by omega) (hc k (Nat.le_refl _) (by omega)) hp hop (hv l (by simp)) n
   obtain ⟨s', e', hp'⟩ := shut_all n j (k + 1) s2 h1 (by rw [h2]; simpa using hl) (h3 fun x hx => hv x (by simp [hx])) (by omega) (fun i a b => hc i (by omega) (by omega))
   refine ⟨s', ?_, by rw [hp']; congr 1; omega⟩
   rw [run_one hop e]
   exact e'
end
end Go.Proofs.YtipbhdhiklmieaaGreatDoor
namespace Go.Proofs.YtipbhdhiklmieaaGreatDoor
open Go.RowKit Go.Shelf
open P3 (endP)
section
variable {t : List Int} {d : Int}
theorem open_brc {N : Nat} (hN : t.length = 5 * N) (hA : ∀ i, i < N → iAt t (4 * i) = 123 ∧ iAt t (4 * i + 1) = 97 ∧ iAt t (4 * i + 2) = 58 ∧ iAt t (4 * i + 3) = 32) (hB : ∀ i, 4 * N ≤ i → i < 5 * N → iAt t i = 125) (n : Int) : ∀ (m i : Nat) (s : St) (l : Lv) (r : List Lv), i + 1 + m = N → s.p = ⟨0, 4 * i + 1⟩ → s.op = l :: r → Lb 0 l → (∀ x ∈ r, Lb 4 x) → r.length = i → d + ((i + 1 : Nat) : Int) ≤ 200 →
  ((N : Int) + d > 200 → ∃ f, runW orc (one t) n d false f s = some (.error 8)) ∧ ((N : Int) + d ≤ 200 → ∃ f s', runW orc (one t) n d false f s = some (.ok s') ∧ s'.p = ⟨0, 5 * N⟩) := by
 intro m
 induction m with
 | zero =>
  intro i s l r hm hp hop hl hr hj hd
  obtain ⟨a0, a1, a2, a3⟩ := hA i (by omega)
  obtain ⟨s2, l2, e2, p2, o2, v2⟩ := entry_a (t := t) (d := d) (k := 4 * i + 1) (by omega) a1 a2 a3 hp hop hl n
  obtain ⟨s3, p3, o3, e3⟩ := value_a (t := t) (d := d) (k := 4 * i + 2) (c := 125) (by omega) a2 a3 (hB _ (by omega) (by omega)) (.inr rfl) p2 o2 v2 n
  rw [if_pos rfl] at e3
  have hpe : (empW orc s3 hs0).p = ⟨0, 4 * N⟩ := by
   show s3.p = _
   rw [p3]
   congr 1
   omega
  have hoe : (empW orc s3 hs0).op = { l2 with nx := 4, ta := max l2.ta 0 } :: r := by
   unfold empW scaW telW
   dsimp only
   rw [o3]
  obtain ⟨s', e', hp'⟩ := shut_all (t := t) (d := d) n N (4 * N) (empW orc s3 hs0) hpe (by rw [hoe]; simp; omega) (fun x hx => by
   rw [hoe] at hx
   rcases List.mem_cons.1 hx with rfl | hx
   ·exact ⟨v2.1, v2.2.1, rfl⟩
   ·exact hr x hx) (by omega) (fun j h1 h2 => hB j h1 (by omega))
  refine ⟨fun h => absurd h (by omega), fun _ => ⟨N + 2, s', ?_, by rw [hp']; congr 1; omega⟩⟩
  rw [run_two hop o2 e2 e3]
  exact e'
 | succ m ih =>
  intro i s l r hm hp hop hl hr hj hd
  obtain ⟨a0, a1, a2, a3⟩ := hA i (by omega)
  obtain ⟨b0, -, -, -⟩ := hA (i + 1) (by omega)
  obtain ⟨s2, l2, e2, p2, o2, v2⟩ := entry_a (t := t) (d := d) (k := 4 * i + 1) (by omega) a1 a2 a3 hp hop hl n
  obtain ⟨s3, p3, o3, e3⟩ := value_a (t := t) (d := d) (k := 4 * i + 2) (c := 123) (by omega) a2 a3 (show iAt t (4 * (i + 1)) = 123 from b0) (.inl rfl) p2 o2 v2 n
  rw [if_neg (by decide), beg_open (t := t) (k := 4 * (i + 1)) (by omega) b0 (.inr rfl) s3 p3] at e3
  have hd3 : deeW d s3 0 = decide (d + ((i + 1 : Nat) : Int) ≥ 200) := by
   unfold deeW
   rw [o3]
   simp [hj]
  by_cases hx : d + ((i + 1 : Nat) : Int) ≥ 200
  ·have e4 : stpW orc (one t) n d false s2 = .error 8 := by
    rw [e3]
    unfold opeW
    rw [hd3, decide_eq_true hx]
    rfl
   refine ⟨fun _ => ⟨2, ?_⟩, fun h => absurd h (by omega)⟩
   rw [run_one hop e2, runW, o2]
   dsimp only
   rw [e4]
  ·obtain ⟨s4, e4, p4, o4⟩ : ∃ s4 : St, stpW orc (one t) n d false s2 = .ok s4 ∧ s4.p = ⟨0, 4 * (i + 1) + 1⟩ ∧ s4.op = ⟨125, false, 0, 0, 0, 0, 0⟩ :: { l2 with nx := 4 } :: r := by
    refine ⟨{ s3 with p := s3.p.plus 1, to := s3.to ++ [⟨5, ⟨#[]⟩, hs0.tg, hs0.an, 0, true⟩], op := ⟨125, false, 0, 0, 0, 0, 0⟩ :: s3.op }, ?_, ?_, ?_⟩
    ·rw [e3]
     unfold opeW
     rw [hd3, decide_eq_false hx]
     rfl
    ·show s3.p.plus 1 = _
     rw [p3]
     rfl
    ·show (⟨125, false, 0, 0, 0, 0, 0⟩ : Lv) :: s3.op = _
     rw [o3]
   obtain ⟨a, b⟩ := ih (i + 1) s4 _ _ (by omega) p4 o4 ⟨rfl, rfl, rfl⟩ (fun x hx => by
    rcases List.mem_cons.1 hx with rfl | hx
    ·exact ⟨v2.1, v2.2.1, rfl⟩
    ·exact hr x hx) (by simp; omega) (by push_cast at hx ⊢; omega)
   refine ⟨fun h => ?_, fun h => ?_⟩
   ·obtain ⟨f, hf⟩ := a h
    exact ⟨f + 2, by rw [run_two hop o2 e2 e4]; exact hf⟩
   ·obtain ⟨f, s', hf, hp'⟩ := b h
    exact ⟨f + 2, s', by rw [run_two hop o2 e2 e4]; exact hf, hp'⟩
end
def brcA : Nat → List Int
 | 0 => []
 | n + 1 => 123 :: 97 :: 58 :: 32 :: brcA n
theorem brcA_len : ∀ n, (brcA n).length = 4 * n
 | 0 => rfl
 | n + 1 => by rw [brcA]; simp [brcA_len n]; omega
theorem brcA_at (X : List Int) : ∀ (n i : Nat), i < n → iAt (brcA n ++ X) (4 * i) = 123 ∧ iAt (brcA n ++ X) (4 * i + 1) = 97 ∧ iAt (brcA n ++ X) (4 * i + 2) = 58 ∧ iAt (brcA n ++ X) (4 * i + 3) = 32
 | n + 1, 0, _ => ⟨rfl, rfl, rfl, rfl⟩
 | n + 1, i + 1, h => by
  have e : ∀ j, iAt (brcA (n + 1) ++ X) (j + 4) = iAt (brcA n ++ X) j := fun j => by
   rw [brcA]
   simp [iAt]
  have := brcA_at X n i (by omega)
  rw [show 4 * (i + 1) = 4 * i + 4 by omega, show 4 * i + 4 + 1 = (4 * i + 1) + 4 by omega, show 4 * i + 4 + 2 = (4 * i + 2) + 4 by omega, show 4 * i + 4 + 3 = (4 * i + 3) + 4 by omega, e, e, e, e]
  exact this
def brcT (n : Nat) : List Int := brcA n ++ List.replicate n 125
theorem brc_len (n : Nat) : (brcT n).length = 5 * n := by unfold brcT; simp [brcA_len]; omega
theorem brc_b {n i : Nat} (h : 4 * n ≤ i) (h2 : i < 5 * n) : iAt (brcT n) i = 125 := by
 unfold iAt brcT
 rw [List.getElem?_append_right (by rw [brcA_len]; exact h), brcA_len]
 have : i - 4 * n < n := by omega
 simp [this]
theorem deep_brc (n : Nat) (d : Int) (hn : 0 < n) : ((n : Int) + d > 200 → ∃ f, ansW (brcT n) d f = some (8, 0, 0, [])) ∧ ((n : Int) + d ≤ 200 → ∃ f ev, ansW (brcT n) d f = some (0, 0, ((5 * n : Nat) : Int), ev)) := by
 have hl := brc_len n
 have hA := brcA_at (List.replicate n 125) n
 have h00 : iAt (brcT n) 0 = 123 := (hA 0 hn).1
 have hone : lpsO (brcT n) = one (brcT n) := lps_one (by omega) (fun j hj => by
  by_cases h : j < 4 * n
  ·obtain ⟨a0, a1, a2, a3⟩ := hA (j / 4) (by omega)
   have hm : j % 4 = 0 ∨ j % 4 = 1 ∨ j % 4 = 2 ∨ j % 4 = 3 := by omega
   rcases hm with h4 | h4 | h4 | h4
   ·rw [show j = 4 * (j / 4) by omega]; rw [show iAt (brcT n) (4 * (j / 4)) = 123 from a0]; decide
   ·rw [show j = 4 * (j / 4) + 1 by omega]; rw [show iAt (brcT n) (4 * (j / 4) + 1) = 97 from a1]; decide
   ·rw [show j = 4 * (j / 4) + 2 by omega]; rw [show iAt (brcT n) (4 * (j / 4) + 2) = 58 from a2]; decide
   ·rw [show j = 4 * (j / 4) + 3 by omega]; rw [show iAt (brcT n) (4 * (j / 4) + 3) = 32 from a3]; decide
  ·rw [brc_b (by omega) (by omega)]; decide) (by rw [h00]; decide)
 have hpl : plcP (one (brcT n)) 0 0 = some ⟨0, 0⟩ := by
  unfold plcP one
  simp
 have hb : begW orc (one (brcT n)) (-1) d false ⟨⟨0, 0⟩, [], [], 0⟩ = opeW d ⟨⟨0, 0⟩, [], [], 0⟩ hs0 123 := beg_open (by omega) h00 (.inr rfl) _ rfl (-1)
 by_cases hd : d ≥ 200
 ·refine ⟨fun _ => ⟨0, ?_⟩, fun h => absurd h (by omega)⟩
  unfold ansW
  rw [hone, hpl]
  dsimp only
  unfold nodW
  rw [hb]
  unfold opeW deeW
  simp [hd]
 ·have hop : opeW d ⟨⟨0, 0⟩, [], [], 0⟩ hs0 123 = .ok ⟨⟨0, 1⟩, [⟨125, false, 0, 0, 0, 0, 0⟩], [⟨5, ⟨#[]⟩, hs0.tg, hs0.an, 0, true⟩], 0⟩ := by
   unfold opeW deeW
   simp [hd, Pl.plus]
  obtain ⟨a, b⟩ := open_brc (t := brcT n) (d := d) hl (fun i h => hA i h) (fun i h h2 => brc_b h h2) (-1) (n - 1) 0 ⟨⟨0, 1⟩, [⟨125, false, 0, 0, 0, 0, 0⟩], [⟨5, ⟨#[]⟩, hs0.tg, hs0.an, 0, true⟩], 0⟩ _ _ (by omega) rfl rfl ⟨rfl, rfl, rfl⟩ (fun x hx => by cases hx) rfl (by push_cast; omega)
  refine ⟨fun h => ?_, fun h => ?_⟩
  ·obtain ⟨f, hf⟩ := a h
   refine ⟨f, ?_⟩
   unfold ansW
   rw [hone, hpl]
   dsimp only
   unfold nodW
   rw [hb, hop]
   dsimp only
   rw [hf]
  ·obtain ⟨f, s', hf, hp⟩ := b h
   refine ⟨f, s'.to.filter nz, ?_⟩
   unfold ansW
   rw [hone, hpl]
   dsimp only
   unfold nodW
   rw [hb, hop]
   dsimp only
   rw [hf]
   dsimp only
   rw [hp]
   simp [colW, one]
end Go.Proofs.YtipbhdhiklmieaaGreatDoor
