/- The program's walk ends: what is left behind a place grows smaller, or the levels come nearer to their ends. -/
import Derived.Test.YtipbhdhiklmieaaGreatDoorZAA
import Derived.WalkKit
import Derived.WalkSpells
import Derived.WalkLawsBesides
import Derived.BigQuiet
import Derived.Deep.Cut
import Derived.Deep.AppendSrc
import Derived.Deep.Heap
set_option linter.all false
set_option maxRecDepth 100000
set_option maxHeartbeats 1600000
namespace Go.Proofs.YtipbhdhiklmieaaGreatDoor
def okL (L : List Lp) (p : Pl) : Prop := ∃ x, L[p.i]? = some x /\ p.k <= x.t.length
def remW (L : List Lp) (i : Nat) : Nat := ((L.drop i).map fun x => x.t.length + 1).sum
theorem remW_step {L : List Lp} {i : Nat} {x : Lp} (h : L[i]? = some x) : remW L i = x.t.length + 1 + remW L (i + 1) := by
 obtain ⟨h1, h2⟩ := List.getElem?_eq_some_iff.1 h
 unfold remW
 rw [List.drop_eq_getElem_cons h1, h2, List.map_cons, List.sum_cons]
theorem remW_mono (L : List Lp) (i : Nat) : remW L (i + 1) <= remW L i := by
 cases h : L[i]? with
 | none =>
  have : L.length <= i := by simpa using h
  unfold remW
  rw [List.drop_eq_nil_of_le this, List.drop_eq_nil_of_le (by omega)]
  exact Nat.le_refl _
 | some x => rw [remW_step h]; omega
theorem remW_le {L : List Lp} {i j : Nat} (h : i <= j) : remW L j <= remW L i := by
 induction h with
 | refl => exact Nat.le_refl _
 | step h ih => exact Nat.le_trans (remW_mono L _) ih
def muW (L : List Lp) (p : Pl) : Nat := remW L p.i - p.k
theorem tx_of {L : List Lp} {i : Nat} {x : Lp} (h : L[i]? = some x) : tx L i = x.t := by unfold tx; rw [h]
theorem rst_of {L : List Lp} {p : Pl} {x : Lp} (h : L[p.i]? = some x) : rst L p = x.t.drop p.k := by rw [rst, tx_of h]
theorem okL.plus {L : List Lp} {p : Pl} (h : okL L p) {m : Nat} (hm : m <= (rst L p).length) : okL L (p.plus m) /\ muW L (p.plus m) + m = muW L p := by
 obtain ⟨x, hx, hk⟩ := h
 rw [rst_of hx, List.length_drop] at hm
 refine ⟨⟨x, hx, ?_⟩, ?_⟩
 ·show p.k + m <= _; omega
 ·have := remW_step hx
  show remW L p.i - (p.k + m) + m = remW L p.i - p.k
  omega
theorem okL.next {L : List Lp} {p : Pl} (h : okL L p) (h2 : p.i + 1 < L.length) : okL L ⟨p.i + 1, 0⟩ /\ muW L ⟨p.i + 1, 0⟩ < muW L p := by
 obtain ⟨x, hx, hk⟩ := h
 refine ⟨⟨_, List.getElem?_eq_getElem h2, Nat.zero_le _⟩, ?_⟩
 have := remW_step hx
 show remW L (p.i + 1) - 0 < remW L p.i - p.k
 omega
theorem okL.mu {L : List Lp} {p : Pl} (h : okL L p) : muW L p <= remW L 0 := by
 have := remW_le (L := L) (Nat.zero_le p.i)
 show remW L p.i - p.k <= _
 omega
theorem okL.small {L : List Lp} {p : Pl} (h : okL L p) : p.i <= L.length /\ p.k <= remW L 0 := by
 obtain ⟨x, hx, hk⟩ := h
 have := remW_le (L := L) (Nat.zero_le p.i)
 have h2 := remW_step hx
 exact ⟨Nat.le_of_lt (List.getElem?_eq_some_iff.1 hx).1, by omega⟩
theorem okL.pas {O : Orc} {L : List Lp} {p : Pl} (h : okL L p) : okL L (pasW O L p) /\ muW L (pasW O L p) <= muW L p := by
 obtain ⟨h1, h2⟩ := h.plus (O.past_le (rst L p))
 exact ⟨h1, by show muW L (p.plus _) <= _; omega⟩
section
variable {O : Orc} {L : List Lp} {n : Int} {deep : Int} {blk : Bool}
theorem nexF_goes : ∀ (f : Nat) (q : Pl) (first : Bool) (r : Pl), okL L q -> nexF O L n f q first = .ok (some r) -> okL L r /\ muW L r <= muW L q /\ 0 < (rst L r).length
 | 0, q, first, r, h, he => by cases he
 | f + 1, q, first, r, h, he => by
  rw [nexF] at he
  split at he
  ·cases he
  ·rename_i x hx
   split at he
   ·cases he
   ·split at he
    ·rename_i hl
     by_cases h2 : q.i + 1 < L.length
     ·obtain ⟨h3, h4⟩ := h.next h2
      obtain ⟨g1, g2, g3⟩ := nexF_goes f _ _ r h3 he
      exact ⟨g1, by omega, g3⟩
     ·cases f with
      | zero => cases he
      | succ f =>
       rw [nexF] at he
       have : L[q.i + 1]? = none := by simp; omega
       dsimp only at he
       rw [this] at he
       cases he
    ·split at he
     ·cases he
     ·rename_i hl hn
      cases he
      obtain ⟨g1, g2⟩ := h.pas (O := O)
      refine ⟨g1, g2, ?_⟩
      unfold linW at hl
      simp only [Bool.or_eq_true, decide_eq_true_eq, not_or] at hl
      omega
theorem nexW_goes {p r : Pl} (h : okL L p) (he : nexW O L n p = .ok (some r)) : okL L r /\ muW L r <= muW L p /\ 0 < (rst L r).length := nexF_goes _ _ _ _ h he
theorem gonW_goes {p r : Pl} (h : okL L p) (he : gonW O L n p = .ok r) : okL L r /\ muW L r <= muW L p /\ 0 < (rst L r).length := by
 unfold gonW at he
 split at he
 ·cases he
 ·cases he
 ·rename_i q hq
  cases he
  exact nexW_goes h hq
theorem namW_goes {rd : List Int -> ByteArray × Nat × Bool} (hrd : ∀ t, (rd t).2.1 <= t.length) {had : ByteArray} {ah : Nat} {p r : Pl} {t : ByteArray} (h : okL L p) (hah : ah <= (rst L p).length) (he : namW O L rd had ah p = .ok (t, r)) :
  okL L r /\ muW L r + ah + (rd (rst L (p.plus ah))).2.1 = muW L p /\ (rd (rst L (p.plus ah))).2.2 = true := by
 unfold namW at he
 split at he
 ·cases he
 ·rename_i hn
  cases he
  obtain ⟨h1, h2⟩ := h.plus hah
  obtain ⟨h3, h4⟩ := h1.plus (hrd (rst L (p.plus ah)))
  refine ⟨h3, by omega, ?_⟩
  simp only [not_or] at hn
  simpa using hn.2.1
def Bhd (L : List Lp) (M : Nat) (x : Hs) : Prop := x.so = true -> okL L ⟨x.bi, x.bk⟩ /\ muW L ⟨x.bi, x.bk⟩ < M
theorem proF_goes : ∀ (f : Nat) (p : Pl) (x y : Hs) (b : Bool) (r : Pl) (M : Nat), okL L p -> muW L p <= M -> Bhd L M x -> proF O L n f p x = .ok (y, b, r) -> okL L r /\ muW L r <= muW L p /\ (b = true -> 0 < (rst L r).length) /\ Bhd L M y
 | 0, p, x, y, b, r, M, h, hM, hx, he => by cases he; exact ⟨h, Nat.le_refl _, fun e => (by cases e), hx⟩
 | f + 1, p, x, y, b, r, M, h, hM, hx, he => by
  rw [proF] at he
  split at he
  ·cases he
  ·cases he; exact ⟨h, Nat.le_refl _, fun e => (by cases e), hx⟩
  ·rename_i q hq
   obtain ⟨g1, g2, g3⟩ := nexW_goes h hq
   split at he
   ·split at he
    ·cases he
    ·rename_i s r2 hn
     obtain ⟨k1, k2, k3⟩ := namW_goes O.anchor_le g1 (by omega) hn
     obtain ⟨j1, j2, j3, j4⟩ := proF_goes f r2 _ y b r M k1 (by omega) (fun _ => ⟨k1, (by show muW L r2 < M; omega)⟩) he
     exact ⟨j1, by omega, j3, j4⟩
   ·split at he
    ·split at he
     ·cases he
     ·rename_i s r2 hn
      obtain ⟨k1, k2, k3⟩ := namW_goes O.tag_le g1 (by omega) hn
      have k4 := O.tag_pos _ k3
      obtain ⟨j1, j2, j3, j4⟩ := proF_goes f r2 _ y b r M k1 (by omega) (fun _ => ⟨k1, (by show muW L r2 < M; omega)⟩) he
      exact ⟨j1, by omega, j3, j4⟩
    ·cases he
     exact ⟨g1, g2, fun _ => g3, hx⟩
theorem uptF_goes {en : List Int -> Option Nat} (hen : ∀ t k, en t = some k -> k < t.length) : ∀ (f : Nat) (q : Pl) (first : Bool) (l l2 : List (List Int)) (r : Pl), okL L q -> uptF O L n en f q first l = .ok (l2, r) -> okL L r /\ muW L r <= muW L q
 | 0, q, first, l, l2, r, h, he => by cases he
 | f + 1, q, first, l, l2, r, h, he => by
  rw [uptF] at he
  split at he
  ·cases he
  ·rename_i x hx
   split at he
   ·cases he
   ·split at he
    ·cases he
    ·split at he
     ·rename_i m hm
      cases he
      have := hen _ _ hm
      obtain ⟨h1, h2⟩ := h.plus (m := m + 1) (by omega)
      exact ⟨h1, by omega⟩
     ·by_cases h2 : q.i + 1 < L.length
      ·obtain ⟨h3, h4⟩ := h.next h2
       obtain ⟨g1, g2⟩ := uptF_goes hen f _ _ _ l2 r h3 he
       exact ⟨g1, by omega⟩
      ·cases f with
       | zero => cases he
       | succ f =>
        rw [uptF] at he
        have : L[q.i + 1]? = none := by simp; omega
        dsimp only at he
        rw [this] at he
        cases he
theorem furF_goes {wf : Bool} {p : Pl} : ∀ (f : Nat) (q r : Pl), okL L q -> furF O L n wf p f q = some r -> okL L r /\ muW L r <= muW L q
 | 0, q, r, h, he => by cases he
 | f + 1, q, r, h, he => by
  rw [furF] at he
  split at he
  ·cases he
  ·rename_i x hx
   split at he
   ·by_cases h2 : q.i + 1 < L.length
    ·obtain ⟨h3, h4⟩ := h.next h2
     obtain ⟨g1, g2⟩ := furF_goes f _ r h3 he
     exact ⟨g1, by omega⟩
    ·cases f with
     | zero => cases he
     | succ f =>
      rw [furF] at he
      have : L[q.i + 1]? = none := by simp; omega
      dsimp only at he
      rw [this] at he
      cases he
   ·split at he
    ·cases he
    ·split at he
     ·cases he
     ·cases he
      exact ⟨h, Nat.le_refl _⟩
theorem plnF_goes {wf : Bool} : ∀ (f : Nat) (p q : Pl) (l : List (List Int)), okL L q -> muW L q <= muW L p -> okL L p -> okL L (plnF O L n wf f p q l).2 /\ muW L (plnF O L n wf f p q l).2 <= muW L p
 | 0, p, q, l, h, hm, hp => ⟨hp, Nat.le_refl _⟩
 | f + 1, p, q, l, h, hm, hp => by
  rw [plnF]
  obtain ⟨h1, h2⟩ := h.plus (O.pEnd_le wf (rst L q))
  split
  ·exact ⟨h1, by show muW L (q.plus _) <= _; omega⟩
  ·rename_i q2 hq
   obtain ⟨h3, h4⟩ := furF_goes _ _ _ h1 hq
   obtain ⟨h5, h6⟩ := plnF_goes f _ q2 _ h3 h4 h1
   exact ⟨h5, by omega⟩
theorem telW_op (s : St) (x : Ev) : (telW s x 0).op = s.op := by
 unfold telW
 cases h : s.op with
 | nil => rfl
 | cons l r => show { l with ta := max l.ta 0 } :: r = _; rw [Nat.max_zero]
def Bgn (L : List Lp) (s s' : St) : Prop := okL L s'.p /\ muW L s'.p <= muW L s.p /\ s'.to.length = s.to.length + 1 /\ ((s'.op = s.op /\ s'.ta = 0) \/ (muW L s'.p < muW L s.p /\ s'.ta = s.ta /\ ∃ cl, s'.op = ⟨cl, false, 0, 0, 0, 0, 0⟩ :: s.op))
theorem scaW_bgn {s s0 : St} {x : Hs} {t : List Int} {st : Int} (hp : okL L s.p) (hm : muW L s.p <= muW L s0.p) (ho : s.op = s0.op) (ht : s.to = s0.to) : Bgn L s0 (scaW O s x t st) :=
 ⟨hp, hm, by show (s.to ++ [_]).length = _; rw [ht]; simp, .inl ⟨(telW_op s _).trans ho, rfl⟩⟩
theorem notW_bgn {s s0 s' : St} {x : Hs} (hb : Bhd L (muW L s0.p + 1) x) (ho : s.op = s0.op) (ht : s.to = s0.to) (he : notW O s x = .ok s') : Bgn L s0 s' := by
 unfold notW at he
 split at he
 ·rename_i hs
  cases he
  obtain ⟨h1, h2⟩ := hb hs
  exact scaW_bgn (s := { s with p := ⟨x.bi, x.bk⟩ }) h1 (by show muW L ⟨x.bi, x.bk⟩ <= _; omega) ho ht
 ·cases he
theorem begW_goes {s s' : St} (h : okL L s.p) (he : begW O L n deep blk s = .ok s') : Bgn L s s' := by
 unfold begW at he
 split at he
 ·cases he
 ·rename_i x r hr
  obtain ⟨h1, h2, h3, h4⟩ := proF_goes 3 s.p hs0 _ _ _ (muW L s.p + 1) h (by omega) (fun e => by cases e) hr
  exact notW_bgn (s := { s with p := r }) h4 rfl rfl he
 ·rename_i x r hr
  obtain ⟨h1, h2, h3, h4⟩ := proF_goes 3 s.p hs0 _ _ _ (muW L s.p + 1) h (by omega) (fun e => by cases e) hr
  have h3 := h3 rfl
  dsimp only at he
  split at he
  ·unfold aliW at he
   split at he
   ·cases he
   ·rename_i t r2 hn
    split at he
    ·cases he
    ·cases he
     obtain ⟨k1, k2, k3⟩ := namW_goes O.anchor_le (p := r) h1 (by omega) hn
     exact ⟨k1, by show muW L r2 <= _; omega, by show (s.to ++ [_]).length = _; simp, .inl ⟨telW_op { s with p := r2 } _, rfl⟩⟩
  ·split at he
   ·unfold quoW at he
    split at he
    ·cases he
    ·rename_i l r2 hu
     obtain ⟨g1, g2⟩ := h1.plus (m := 1) (by omega)
     have hen : ∀ t k, (if decide (hd L r = 34) = true then O.dEnd else O.sEnd) t = some k -> k < t.length := by
      intro t k
      split
      ·exact O.dEnd_lt t k
      ·exact O.sEnd_lt t k
     obtain ⟨g3, g4⟩ := uptF_goes hen _ _ _ _ _ _ g1 hu
     split at he
     ·split at he
      ·cases he
      ·cases he
       exact scaW_bgn (s := { s with p := r2 }) g3 (by show muW L r2 <= _; omega) rfl rfl
     ·cases he
      exact scaW_bgn (s := { s with p := r2 }) g3 (by show muW L r2 <= _; omega) rfl rfl
   ·split at he
    ·unfold opeW at he
     split at he
     ·cases he
     ·cases he
      obtain ⟨g1, g2⟩ := h1.plus (m := 1) (by omega)
      exact ⟨g1, by show muW L (r.plus 1) <= _; omega, by show (s.to ++ [_]).length = _; simp, .inr ⟨by show muW L (r.plus 1) < _; omega, rfl, _, rfl⟩⟩
    ·split at he
     ·cases he
      unfold plnW
      obtain ⟨g1, g2⟩ := plnF_goes (O := O) (n := n) (wf := !blk || decide (0 < s.op.length)) (L.length + 1) r r [] h1 (Nat.le_refl _) h1
      exact scaW_bgn (s := { s with p := _ }) g1 (Nat.le_trans g2 h2) rfl rfl
     ·exact notW_bgn (s := { s with p := r }) h4 rfl rfl he
def wt (l : Lv) : Nat := if l.nx = 0 then 5 else if l.nx = 1 then 4 else if l.nx = 2 then 2 else 1
def wts : List Lv -> Nat
 | [] => 0
 | l :: r => wt l + wts r
def mea (L : List Lp) (s : St) : Nat := 8 * muW L s.p + wts s.op
def Hol (m : Nat) (l : Lv) : Prop := l.nx = 1 -> l.ho < m
structure Iv (L : List Lp) (C : Nat) (s : St) : Prop where
 ok : okL L s.p
 hol : ∀ l ∈ s.op, Hol s.to.length l /\ l.bi <= L.length /\ l.bk <= remW L 0
 to : s.to.length + 2 * mea L s <= C
 op : s.op.length + 2 * mea L s <= C
 ta : s.ta + mea L s <= C
 la : ∀ l ∈ s.op, l.ta + mea L s <= C
theorem wt_pos (l : Lv) : 1 <= wt l := by
 unfold wt
 repeat' split
 all_goals omega
structure Par (L : List Lp) (C : Nat) (s s1 : St) (a : Nat) : Prop where
 ok : okL L s1.p
 me : mea L s1 < mea L s
 tl : s.to.length <= s1.to.length
 th : s1.to.length <= s.to.length + a
 op : s1.op.length <= s.op.length + a
 hol : ∀ l ∈ s1.op, Hol s1.to.length l /\ l.bi <= L.length /\ l.bk <= remW L 0
 ta : s1.ta + mea L s1 <= C
 la : ∀ l ∈ s1.op, l.ta + mea L s1 <= C
theorem Par.done {C a : Nat} {s s1 : St} (h : Iv L C s) (k : Par L C s s1 a) (ha : a <= 2) : Iv L C s1 /\ mea L s1 < mea L s :=
 ⟨⟨k.ok, k.hol, by have := h.to; have := k.me; have := k.th; omega, by have := h.op; have := k.me; have := k.op; omega, k.ta, k.la⟩, k.me⟩
theorem Hol.on {m m' : Nat} {l : Lv} (h : Hol m l) (hm : m <= m') : Hol m' l := fun e => Nat.lt_of_lt_of_le (h e) hm
theorem Par.beg {C : Nat} {s s1 s' : St} (k : Par L C s s1 1) (h : Bgn L s1 s') : Par L C s s' 2 := by
 obtain ⟨h1, h2, h3, h4⟩ := h
 have k1 := k.me
 have k2 := k.ta
 rcases h4 with ⟨e1, e2⟩ | ⟨h5, e2, cl, e1⟩
 ·have hm : mea L s' <= mea L s1 := by unfold mea; rw [e1]; omega
  exact ⟨h1, by omega, by have := k.tl; omega, by have := k.th; omega, by rw [e1]; have := k.op; omega, fun l hl => by
   rw [e1] at hl
   obtain ⟨g1, g2⟩ := k.hol l hl
   exact ⟨g1.on (by omega), g2⟩, by omega, fun l hl => by
   rw [e1] at hl
   have := k.la l hl
   omega⟩
 ·have hm : mea L s' < mea L s1 := by
   unfold mea
   rw [e1]
   show 8 * muW L s'.p + (5 + wts s1.op) < _
   omega
  refine ⟨h1, by omega, by have := k.tl; omega, by have := k.th; omega, by rw [e1]; have := k.op; simp; omega, fun l hl => ?_, by omega, fun l hl => ?_⟩
  ·rw [e1] at hl
   rcases List.mem_cons.1 hl with rfl | hl
   ·exact ⟨fun e => by simp at e, Nat.zero_le _, Nat.zero_le _⟩
   ·obtain ⟨g1, g2⟩ := k.hol l hl
    exact ⟨g1.on (by omega), g2⟩
  ·rw [e1] at hl
   rcases List.mem_cons.1 hl with rfl | hl
   ·show 0 + mea L s' <= C; omega
   ·have := k.la l hl
    omega
theorem Par.top {C : Nat} {s : St} {l l' : Lv} {r : List Lv} {q : Pl} (h : Iv L C s) (hop : s.op = l :: r) (hq : okL L q) (hm : 8 * muW L q + wt l' < 8 * muW L s.p + wt l) (hta : l'.ta = l.ta) {to : List Ev} (ht : s.to.length <= to.length /\ to.length <= s.to.length + 1) (hh : Hol to.length l') (hb : l'.bi <= L.length /\ l'.bk <= remW L 0) :
  Par L C s { s with p := q, op := l' :: r, to := to } 1 := by
 have hme : mea L { s with p := q, op := l' :: r, to := to } < mea L s := by
  unfold mea
  rw [hop]
  show 8 * muW L q + (wt l' + wts r) < 8 * muW L s.p + (wt l + wts r)
  omega
 have h1 := h.ta
 refine ⟨hq, hme, ht.1, ht.2, by rw [hop]; simp, fun x hx => ?_, by show s.ta + _ <= _; omega, fun x hx => ?_⟩
 ·rcases List.mem_cons.1 hx with rfl | hx
  ·exact ⟨hh, hb⟩
  ·obtain ⟨g1, g2⟩ := h.hol x (by rw [hop]; exact List.mem_cons_of_mem _ hx)
   exact ⟨g1.on ht.1, g2⟩
 ·rcases List.mem_cons.1 hx with rfl | hx
  ·have := h.la l (by rw [hop]; exact List.mem_cons_self)
   rw [hta]
   omega
  ·have := h.la x (by rw [hop]; exact List.mem_cons_of_mem _ hx)
   omega
theorem Par.pair {C : Nat} {s : St} {l l' l2 : Lv} {r : List Lv} {q : Pl} (h : Iv L C s) (hop : s.op = l :: r) (hq : okL L q) (hm : 8 * muW L q + wt l' + wt l2 < 8 * muW L s.p + wt l) (hta : l'.ta = l.ta) (h2t : l2.ta <= s.ta) (h2n : l2.nx ≠ 1) (h1n : l'.nx ≠ 1) (h2b : l2.bi = 0 /\ l2.bk = 0) (h1b : l'.bi = l.bi /\ l'.bk = l.bk) {to : List Ev} (ht : s.to.length <= to.length /\ to.length <= s.to.length + 1) :
  Par L C s { s with p := q, op := l2 :: l' :: r, to := to } 1 := by
 have hme : mea L { s with p := q, op := l2 :: l' :: r, to := to } < mea L s := by
  unfold mea
  rw [hop]
  show 8 * muW L q + (wt l2 + (wt l' + wts r)) < 8 * muW L s.p + (wt l + wts r)
  omega
 have h1 := h.ta
 refine ⟨hq, hme, ht.1, ht.2, by rw [hop]; simp, fun x hx => ?_, by show s.ta + _ <= _; omega, fun x hx => ?_⟩
 ·rcases List.mem_cons.1 hx with rfl | hx
  ·exact ⟨fun e => absurd e h2n, by rw [h2b.1]; exact Nat.zero_le _, by rw [h2b.2]; exact Nat.zero_le _⟩
  ·rcases List.mem_cons.1 hx with rfl | hx
   ·obtain ⟨g1, g2⟩ := h.hol l (by rw [hop]; exact List.mem_cons_self)
    exact ⟨fun e => absurd e h1n, by rw [h1b.1]; exact g2.1, by rw [h1b.2]; exact g2.2⟩
   ·obtain ⟨g1, g2⟩ := h.hol x (by rw [hop]; exact List.mem_cons_of_mem _ hx)
    exact ⟨g1.on ht.1, g2⟩
 ·rcases List.mem_cons.1 hx with rfl | hx
  ·omega
  ·rcases List.mem_cons.1 hx with rfl | hx
   ·have := h.la l (by rw [hop]; exact List.mem_cons_self)
    rw [hta]
    omega
   ·have := h.la x (by rw [hop]; exact List.mem_cons_of_mem _ hx)
    omega
theorem Par.clo {C : Nat} {s : St} {l : Lv} {r : List Lv} {q : Pl} (h : Iv L C s) (hop : s.op = l :: r) (hq : okL L q) (hm : muW L q <= muW L s.p) : Par L C s (cloS { s with p := q }) 1 := by
 have hla := h.la l (by rw [hop]; exact List.mem_cons_self)
 have hw := wt_pos l
 have hc : cloS { s with p := q } = telW { s with p := q, op := r } ⟨if l.cl = 93 /\ l.pr = false then 4 else 6, ⟨#[]⟩, ⟨#[]⟩, ⟨#[]⟩, 0, false⟩ (l.ta + 1) := by
  unfold cloS
  simp only [hop]
 rw [hc]
 generalize (⟨if l.cl = 93 /\ l.pr = false then 4 else 6, ⟨#[]⟩, ⟨#[]⟩, ⟨#[]⟩, 0, false⟩ : Ev) = ev
 have hwt : wts (telW { s with p := q, op := r } ev (l.ta + 1)).op = wts r := by
  cases r <;> rfl
 have hme : mea L (telW { s with p := q, op := r } ev (l.ta + 1)) < mea L s := by
  unfold mea
  rw [hwt, hop]
  show 8 * muW L q + wts r < 8 * muW L s.p + (wt l + wts r)
  omega
 have hto : (telW { s with p := q, op := r } ev (l.ta + 1)).to.length = s.to.length + 1 := by show (s.to ++ [ev]).length = _; simp
 generalize hM : mea L (telW { s with p := q, op := r } ev (l.ta + 1)) = M at hme
 refine ⟨hq, by rw [hM]; exact hme, by rw [hto]; omega, by rw [hto]; omega, ?_, fun x hx => ?_, ?_, fun x hx => ?_⟩
 ·rw [hop]; cases r <;> simp [telW]
 ·rw [hto]
  cases r with
  | nil => cases hx
  | cons y r =>
   rcases List.mem_cons.1 hx with rfl | hx
   ·obtain ⟨g1, g2⟩ := h.hol y (by rw [hop]; simp)
    exact ⟨fun e => Nat.lt_of_lt_of_le (g1 e) (by omega), g2⟩
   ·obtain ⟨g1, g2⟩ := h.hol x (by rw [hop]; exact List.mem_cons_of_mem _ (List.mem_cons_of_mem _ hx))
    exact ⟨g1.on (by omega), g2⟩
 ·rw [hM]; show l.ta + 1 + M <= C; omega
 ·rw [hM]
  cases r with
  | nil => cases hx
  | cons y r =>
   rcases List.mem_cons.1 hx with rfl | hx
   ·have := h.la y (by rw [hop]; simp)
    show max y.ta (l.ta + 1) + M <= C
    omega
   ·have := h.la x (by rw [hop]; exact List.mem_cons_of_mem _ (List.mem_cons_of_mem _ hx))
    omega
theorem empW_bgn {s : St} (hp : okL L s.p) : Bgn L s (empW O s hs0) := scaW_bgn hp (Nat.le_refl _) rfl rfl
theorem Iv.topS {C : Nat} {s : St} {l : Lv} {r : List Lv} (h : Iv L C s) (hop : s.op = l :: r) : l.bi <= L.length /\ l.bk <= remW L 0 := (h.hol l (by rw [hop]; exact List.mem_cons_self)).2
theorem stpW_goes {C : Nat} {s s' : St} {l : Lv} {r : List Lv} (h : Iv L C s) (hop : s.op = l :: r) (he : stpW O L n deep blk s = .ok s') : Iv L C s' /\ mea L s' < mea L s := by
 have hb := h.topS hop
 have hp := h.ok
 unfold stpW at he
 rw [hop] at he
 dsimp only at he
 split at he
 ·rename_i h0
  have w0 : wt l = 5 := by unfold wt; rw [if_pos h0]
  unfold entW at he
  split at he
  ·cases he
  ·rename_i q hq
   obtain ⟨g1, g2, g3⟩ := gonW_goes hp hq
   dsimp only at he
   split at he
   ·cases he
    obtain ⟨k1, k2⟩ := g1.plus (m := 1) (by omega)
    exact (Par.clo h hop k1 (by omega)).done h (by omega)
   ·split at he
    ·unfold askW at he
     split at he
     ·cases he
     ·dsimp only at he
      split at he
      ·cases he
      ·rename_i q2 hq2
       have hq2' : gonW O L n (q.plus 1) = .ok q2 := by
        split at hq2 <;> exact hq2
       obtain ⟨k1, k2⟩ := g1.plus (m := 1) (by omega)
       obtain ⟨k3, k4, k5⟩ := gonW_goes k1 hq2'
       have hP : Par L C s (topS { (if l.cl = 93 then paiS { s with p := q, to := s.to ++ [evP] } 0 else { s with p := q }) with p := q2 } fun l => { l with nx := 2 }) 1 := by
        split
        ·unfold paiS topS
         simp only [hop]
         exact Par.pair (l' := { l with nx := 4 }) (l2 := ⟨93, true, 2, 0, 0, 0, 0⟩) h hop k3 (by rw [w0]; simp [wt]; omega) rfl (Nat.zero_le _) (by simp) (by simp) ⟨rfl, rfl⟩ ⟨rfl, rfl⟩ (by simp)
        ·unfold topS
         simp only [hop]
         exact Par.top (l' := { l with nx := 2 }) (to := s.to) h hop k3 (by rw [w0]; simp [wt]; omega) rfl ⟨Nat.le_refl _, by omega⟩ (fun e => by simp at e) hb
       obtain ⟨s2, hs2⟩ : ∃ s2, (topS { (if l.cl = 93 then paiS { s with p := q, to := s.to ++ [evP] } 0 else { s with p := q }) with p := q2 } fun l => { l with nx := 2 }) = s2 := ⟨_, rfl⟩
       rw [hs2] at hP
       change (if (entEnds L (topS { (if l.cl = 93 then paiS { s with p := q, to := s.to ++ [evP] } 0 else { s with p := q }) with p := q2 } fun l => { l with nx := 2 }) l.cl || aloW O L q2 58) = true then Except.ok (empW O (topS { (if l.cl = 93 then paiS { s with p := q, to := s.to ++ [evP] } 0 else { s with p := q }) with p := q2 } fun l => { l with nx := 2 }) hs0) else begW O L n deep blk (topS { (if l.cl = 93 then paiS { s with p := q, to := s.to ++ [evP] } 0 else { s with p := q }) with p := q2 } fun l => { l with nx := 2 })) = _ at he
       rw [hs2] at he
       split at he
       ·cases he
        exact (hP.beg (empW_bgn hP.ok)).done h (by omega)
       ·exact (hP.beg (begW_goes hP.ok he)).done h (by omega)
    ·split at he
     ·have hP : Par L C s (topS { s with p := q } fun l => { l with nx := 2 }) 1 := by
       unfold topS
       simp only [hop]
       exact Par.top (l' := { l with nx := 2 }) (to := s.to) h hop g1 (by rw [w0]; simp [wt]; omega) rfl ⟨Nat.le_refl _, by omega⟩ (fun e => by simp at e) hb
      exact (hP.beg (begW_goes hP.ok he)).done h (by omega)
     ·have hP : Par L C s { topS { s with p := q } (fun l => { l with nx := 1, bi := q.i, bk := q.k, ho := s.to.length }) with to := s.to ++ [ev0] } 1 := by
       unfold topS
       simp only [hop]
       exact Par.top (l' := { l with nx := 1, bi := q.i, bk := q.k, ho := s.to.length }) (to := s.to ++ [ev0]) h hop g1 (by rw [w0]; simp [wt]; omega) rfl (by simp) (fun e => by simp) g1.small
      exact (hP.beg (begW_goes hP.ok he)).done h (by omega)
 ·split at he
  ·rename_i h0
   have w0 : wt l = 4 := by unfold wt; rw [h0]; rfl
   have hP : Par L C s (topS s fun l => { l with nx := 4 }) 1 := by
    unfold topS
    simp only [hop]
    exact Par.top (l' := { l with nx := 4 }) (to := s.to) h hop hp (by rw [w0]; simp [wt]) rfl ⟨Nat.le_refl _, by omega⟩ (fun e => by simp at e) hb
   unfold iteW at he
   dsimp only at he
   split at he
   ·cases he
   ·cases he
    exact hP.done h (by omega)
   ·split at he
    ·cases he
     exact hP.done h (by omega)
    ·split at he
     ·cases he
     ·cases he
      have hP : Par L C s (paiS { topS s (fun l => { l with nx := 4 }) with to := s.to.set l.ho evP } s.ta) 1 := by
       unfold paiS topS
       simp only [hop]
       exact Par.pair (l' := { l with nx := 4 }) (l2 := ⟨93, true, 2, 0, 0, 0, s.ta⟩) (to := s.to.set l.ho evP) h hop hp (by rw [w0]; simp [wt]) rfl (Nat.le_refl _) (by simp) (by simp) ⟨rfl, rfl⟩ ⟨rfl, rfl⟩ (by simp)
      exact hP.done h (by omega)
  ·split at he
   ·rename_i h0
    have w0 : wt l = 2 := by unfold wt; rw [h0]; rfl
    have w1 : wt { l with nx := if l.pr then 3 else 4 } = 1 := by cases l.pr <;> simp [wt]
    have w2 : (if l.pr then 3 else 4) ≠ 1 := by cases l.pr <;> simp
    unfold valW at he
    split at he
    ·cases he
    ·rename_i q hq
     obtain ⟨g1, g2, g3⟩ := gonW_goes hp hq
     dsimp only at he
     split at he
     ·cases he
      have hP : Par L C s (topS s fun l => { l with nx := if l.pr then 3 else 4 }) 1 := by
       unfold topS
       simp only [hop]
       exact Par.top (l' := { l with nx := if l.pr then 3 else 4 }) (to := s.to) h hop hp (by rw [w0, w1]; omega) rfl ⟨Nat.le_refl _, by omega⟩ (fun e => absurd e w2) hb
      exact (hP.beg (empW_bgn hP.ok)).done h (by omega)
     ·split at he
      ·cases he
      ·rename_i r2 hr
       obtain ⟨k1, k2⟩ := g1.plus (m := 1) (by omega)
       obtain ⟨k3, k4, k5⟩ := gonW_goes k1 hr
       have hP : Par L C s { topS s (fun l => { l with nx := if l.pr then 3 else 4 }) with p := r2 } 1 := by
        unfold topS
        simp only [hop]
        exact Par.top (l' := { l with nx := if l.pr then 3 else 4 }) (to := s.to) h hop k3 (by rw [w0, w1]; omega) rfl ⟨Nat.le_refl _, by omega⟩ (fun e => absurd e w2) hb
       split at he
       ·cases he
        exact (hP.beg (empW_bgn hP.ok)).done h (by omega)
       ·exact (hP.beg (begW_goes hP.ok he)).done h (by omega)
   ·rename_i h00 h01 h02
    have w0 : wt l = 1 := by unfold wt; rw [if_neg h00, if_neg h01, if_neg h02]
    split at he
    ·cases he
     exact (Par.clo (q := s.p) h hop hp (Nat.le_refl _)).done h (by omega)
    ·unfold comW at he
     split at he
     ·cases he
     ·rename_i q hq
      obtain ⟨g1, g2, g3⟩ := gonW_goes hp hq
      obtain ⟨k1, k2⟩ := g1.plus (m := 1) (by omega)
      split at he
      ·cases he
       have hP : Par L C s (topS { s with p := q.plus 1 } fun l => { l with nx := 0 }) 1 := by
        unfold topS
        simp only [hop]
        exact Par.top (l' := { l with nx := 0 }) (to := s.to) h hop k1 (by rw [w0]; simp [wt]; omega) rfl ⟨Nat.le_refl _, by omega⟩ (fun e => by simp at e) hb
       exact hP.done h (by omega)
      ·split at he
       ·cases he
        exact (Par.clo h hop k1 (by omega)).done h (by omega)
       ·cases he
theorem iv_start {p : Pl} {s : St} (hp : okL L p) (he : begW O L n deep blk ⟨p, [], [], 0⟩ = .ok s) : Iv L (16 * remW L 0 + 16) s := by
 obtain ⟨h1, h2, h3, h4⟩ := begW_goes (s := ⟨p, [], [], 0⟩) hp he
 have h5 := hp.mu
 have h3 : s.to.length = 1 := h3
 have h2 : muW L s.p <= muW L p := h2
 rcases h4 with ⟨e1, e2⟩ | ⟨h6, e2, cl, e1⟩
 ·have e1 : s.op = [] := e1
  have hm : mea L s <= 8 * remW L 0 := by unfold mea; rw [e1]; show 8 * muW L s.p + 0 <= _; omega
  exact ⟨h1, fun l hl => (by rw [e1] at hl; cases hl), by omega, by rw [e1]; show 0 + _ <= _; omega, by omega, fun l hl => (by rw [e1] at hl; cases hl)⟩
 ·have e1 : s.op = [⟨cl, false, 0, 0, 0, 0, 0⟩] := e1
  have e2 : s.ta = 0 := e2
  have h6 : muW L s.p < muW L p := h6
  have hm : mea L s <= 8 * remW L 0 := by unfold mea; rw [e1]; show 8 * muW L s.p + (5 + 0) <= _; omega
  refine ⟨h1, fun l hl => ?_, by omega, by rw [e1]; show 1 + _ <= _; omega, by omega, fun l hl => ?_⟩
  ·rw [e1] at hl
   cases List.mem_singleton.1 hl
   exact ⟨fun e => by simp at e, Nat.zero_le _, Nat.zero_le _⟩
  ·rw [e1] at hl
   cases List.mem_singleton.1 hl
   show 0 + _ <= _
   omega
end
section
variable {O : Orc} {L : List Lp} {n : Int}
theorem uptF_list {en : List Int -> Option Nat} {B : Nat} (hB : ∀ p, (rst L p).length <= B) : ∀ (f : Nat) (q : Pl) (first : Bool) (l l2 : List (List Int)) (r : Pl), uptF O L n en f q first l = .ok (l2, r) -> (∀ t ∈ l, t.length <= B) -> l2.length <= l.length + f /\ ∀ t ∈ l2, t.length <= B
 | 0, q, first, l, l2, r, he, hl => by cases he
 | f + 1, q, first, l, l2, r, he, hl => by
  rw [uptF] at he
  split at he
  ·cases he
  ·split at he
   ·cases he
   ·split at he
    ·cases he
    ·split at he
     ·cases he
      refine ⟨by simp, fun t ht => ?_⟩
      rcases List.mem_append.1 ht with ht | ht
      ·exact hl t ht
      ·cases List.mem_singleton.1 ht
       exact Nat.le_trans (by rw [List.length_take]; omega) (hB q)
     ·obtain ⟨h1, h2⟩ := uptF_list hB f _ _ _ l2 r he (fun t ht => by
       rcases List.mem_append.1 ht with ht | ht
       ·exact hl t ht
       ·cases List.mem_singleton.1 ht
        exact hB q)
      refine ⟨?_, h2⟩
      simp at h1
      omega
theorem furF_line {wf : Bool} {p : Pl} : ∀ (f : Nat) (q r : Pl), furF O L n wf p f q = some r -> q.i <= r.i /\ r.i ≠ p.i
 | 0, q, r, he => by cases he
 | f + 1, q, r, he => by
  rw [furF] at he
  split at he
  ·cases he
  ·split at he
   ·have := furF_line f _ r he
    exact ⟨by have := this.1; dsimp only at this; omega, this.2⟩
   ·split at he
    ·cases he
    ·rename_i hn
     split at he
     ·cases he
     ·cases he
      exact ⟨Nat.le_refl _, fun e => hn (.inl e)⟩
theorem furW_line {wf : Bool} {p r : Pl} (h : furW O L n wf p = some r) : p.i < r.i := by
 have := furF_line _ _ _ h
 omega
theorem plnF_list {wf : Bool} {B : Nat} (hB : ∀ p, (rst L p).length <= B) : ∀ (f : Nat) (p q : Pl) (l : List (List Int)), okL L q -> l.length <= p.i + 1 -> (l = [] \/ p.i < q.i) -> (∀ t ∈ l, t.length <= B) -> p.i < L.length -> (plnF O L n wf f p q l).1.length <= L.length /\ ∀ t ∈ (plnF O L n wf f p q l).1, t.length <= B
 | 0, p, q, l, h, hl, hq, ht, hp => ⟨by show l.length <= _; omega, ht⟩
 | f + 1, p, q, l, h, hl, hq, ht, hp => by
  rw [plnF]
  obtain ⟨l2, hl2⟩ : ∃ l2, (if l.length = 0 then [] else l ++ List.replicate (q.i - p.i - 1) []) ++ [(rst L q).take (O.pEnd wf (rst L q))] = l2 := ⟨_, rfl⟩
  have hlen : l2.length <= q.i + 1 := by
   rw [<- hl2]
   split
   ·simp
   ·rename_i hn
    rcases hq with rfl | hq
    ·exact absurd rfl hn
    ·simp; omega
  have hall : ∀ t ∈ l2, t.length <= B := by
   intro t hm
   rw [<- hl2] at hm
   rcases List.mem_append.1 hm with hm | hm
   ·split at hm
    ·cases hm
    ·rcases List.mem_append.1 hm with hm | hm
     ·exact ht t hm
     ·have := List.eq_of_mem_replicate hm
      rw [this]
      exact Nat.zero_le _
   ·cases List.mem_singleton.1 hm
    exact Nat.le_trans (by rw [List.length_take]; omega) (hB q)
  have hqi : q.i < L.length := by obtain ⟨x, hx, -⟩ := h; exact (List.getElem?_eq_some_iff.1 hx).1
  rw [hl2]
  obtain ⟨h1, h2⟩ := h.plus (O.pEnd_le wf (rst L q))
  split
  ·exact ⟨by show l2.length <= _; omega, hall⟩
  ·rename_i q2 hq2
   obtain ⟨h3, h4⟩ := furF_goes _ _ _ h1 hq2
   exact plnF_list hB f _ q2 _ h3 hlen (.inr (furW_line hq2)) hall hqi
end
section
variable {O : Orc} {L : List Lp} {n : Int} {deep : Int} {blk : Bool}
theorem nexF_ne : ∀ (f : Nat) (q : Pl) (b : Bool) (c : Int), nexF O L n f q b = .error c -> c ≠ 0
 | 0, q, b, c, h => by cases h
 | f + 1, q, b, c, h => by
  rw [nexF] at h
  split at h
  ·cases h
  ·split at h
   ·cases h
   ·split at h
    ·exact nexF_ne f _ _ _ h
    ·split at h
     ·cases h; decide
     ·cases h
theorem gonW_ne {p : Pl} {c : Int} (h : gonW O L n p = .error c) : c ≠ 0 := by
 unfold gonW at h
 split at h
 ·rename_i c' hc
  cases h
  exact nexF_ne _ _ _ _ hc
 ·cases h; decide
 ·cases h
theorem namW_ne {rd : List Int -> ByteArray × Nat × Bool} {had : ByteArray} {ah : Nat} {p : Pl} {c : Int} (h : namW O L rd had ah p = .error c) : c ≠ 0 := by
 unfold namW at h
 split at h
 ·cases h; decide
 ·cases h
theorem proF_ne : ∀ (f : Nat) (p : Pl) (x : Hs) (c : Int), proF O L n f p x = .error c -> c ≠ 0
 | 0, p, x, c, h => by cases h
 | f + 1, p, x, c, h => by
  rw [proF] at h
  split at h
  ·rename_i c' hc
   cases h
   exact nexF_ne _ _ _ _ hc
  ·cases h
  ·split at h
   ·split at h
    ·rename_i c' hc
     cases h
     exact namW_ne hc
    ·exact proF_ne f _ _ c h
   ·split at h
    ·split at h
     ·rename_i c' hc
      cases h
      exact namW_ne hc
     ·exact proF_ne f _ _ c h
    ·cases h
theorem uptF_ne {en : List Int -> Option Nat} : ∀ (f : Nat) (q : Pl) (b : Bool) (l : List (List Int)) (c : Int), uptF O L n en f q b l = .error c -> c ≠ 0
 | 0, q, b, l, c, h => by cases h; decide
 | f + 1, q, b, l, c, h => by
  rw [uptF] at h
  split at h
  ·cases h; decide
  ·split at h
   ·cases h; decide
   ·split at h
    ·cases h; decide
    ·split at h
     ·cases h
     ·exact uptF_ne f _ _ _ c h
theorem quoW_ne {s : St} {x : Hs} {two : Bool} {c : Int} (h : quoW O L n s x two = .error c) : c ≠ 0 := by
 unfold quoW at h
 split at h
 ·rename_i c' hc
  cases h
  exact uptF_ne _ _ _ _ _ hc
 ·split at h
  ·split at h
   ·rename_i hn
    cases h
    exact hn
   ·cases h
  ·cases h
theorem notW_ne {s : St} {x : Hs} {c : Int} (h : notW O s x = .error c) : c ≠ 0 := by
 unfold notW at h
 split at h
 ·cases h
 ·cases h; decide
theorem begW_ne {s : St} {c : Int} (h : begW O L n deep blk s = .error c) : c ≠ 0 := by
 unfold begW at h
 split at h
 ·rename_i c' hc
  cases h
  exact proF_ne _ _ _ _ hc
 ·exact notW_ne h
 ·dsimp only at h
  split at h
  ·unfold aliW at h
   split at h
   ·cases h; decide
   ·split at h
    ·cases h; decide
    ·cases h
  ·split at h
   ·exact quoW_ne h
   ·split at h
    ·unfold opeW at h
     split at h
     ·cases h; decide
     ·cases h
    ·split at h
     ·cases h
     ·exact notW_ne h
theorem askW_ne {s : St} {l : Lv} {c : Int} (h : askW O L n deep blk s l = .error c) : c ≠ 0 := by
 unfold askW at h
 split at h
 ·cases h; decide
 ·dsimp only at h
  generalize (if l.cl = 93 then paiS { s with to := s.to ++ [evP] } 0 else s) = s1 at h
  split at h
  ·rename_i c' hc
   cases h
   exact gonW_ne hc
  ·split at h
   ·cases h
   ·exact begW_ne h
theorem stpW_ne {s : St} {c : Int} (h : stpW O L n deep blk s = .error c) : c ≠ 0 := by
 unfold stpW at h
 split at h
 ·cases h
 ·rename_i l r hop
  split at h
  ·unfold entW at h
   split at h
   ·rename_i c' hc
    cases h
    exact gonW_ne hc
   ·dsimp only at h
    split at h
    ·cases h
    ·split at h
     ·exact askW_ne h
     ·split at h
      ·exact begW_ne h
      ·exact begW_ne h
  ·split at h
   ·unfold iteW at h
    dsimp only at h
    split at h
    ·rename_i c' hc
     cases h
     exact nexF_ne _ _ _ _ hc
    ·cases h
    ·split at h
     ·cases h
     ·split at h
      ·cases h; decide
      ·cases h
   ·split at h
    ·unfold valW at h
     split at h
     ·rename_i c' hc
      cases h
      exact gonW_ne hc
     ·dsimp only at h
      split at h
      ·cases h
      ·split at h
       ·rename_i c' hc
        cases h
        exact gonW_ne hc
       ·split at h
        ·cases h
        ·exact begW_ne h
    ·split at h
     ·cases h
     ·unfold comW at h
      split at h
      ·rename_i c' hc
       cases h
       exact gonW_ne hc
      ·split at h
       ·cases h
       ·split at h
        ·cases h
        ·cases h; decide
end
end Go.Proofs.YtipbhdhiklmieaaGreatDoor
namespace Go.Proofs.YtipbhdhiklmieaaGreatDoor
open Go.RowKit
def span (n a b : Int) : Bool := decide (a <= n) && decide (n <= b)
theorem within_any (n a b : Int) (w : World) :
  Calls Tryz.prog 192 #[.int .i64 n, .int .i64 a, .int .i64 b] w fun e w' => e = .returned (.bool (span n a b)) /\ w' = w := by
 go_enter Tryz.func192, Tryz.ntmps192
 go_wp2
 all_goals
  go_ret
  exact ⟨ret_bool (by unfold span; simp [*] <;> omega), rfl⟩
def has (s : ByteArray) (n : Int) : Bool := s.data.toList.any fun x => decide ((x.toNat : Int) = n)
theorem has_yes {s : ByteArray} {n : Int} (k : Nat) (h : k < s.size) (e : (s[k].toNat : Int) = n) : has s n = true := by
 unfold has
 rw [List.any_eq_true]
 exact ⟨s[k], by rw [show s[k] = s.data[k] from rfl]; exact Array.mem_toList_iff.2 (Array.getElem_mem _), decide_eq_true e⟩
theorem has_no {s : ByteArray} {n : Int} (h : ∀ j (hj : j < s.size), ¬ (s[j].toNat : Int) = n) : has s n = false := by
 unfold has
 rw [List.any_eq_false]
 intro x hx
 obtain ⟨j, hj, rfl⟩ := Array.mem_iff_getElem.1 (Array.mem_toList_iff.1 hx)
 have := h j hj
 rw [decide_eq_true_iff]
 exact this
theorem wrap_byte (x : UInt8) : wrap64 (x.toNat : Int) = x.toNat := by
 have := x.toNat_lt
 unfold wrap64
 omega
theorem oneOf_any (n : Int) (s : ByteArray) (w : World) (hs : s.size <= 100) :
  Calls Tryz.prog 156 #[.int .i64 n, .string s] w fun e w' => e = .returned (.bool (has s n)) /\ w' = w := by
 go_enter Tryz.func156, Tryz.ntmps156
 go_wp2
 go_loop [8] (fun i => ∃ k : Nat, k <= s.size /\ i = .int .i64 k /\ ∀ j (h : j < s.size), j < k -> ¬ (s[j].toNat : Int) = n) (fun i => s.size - (intOf i).toNat)
 case atStart => exact ⟨0, Nat.zero_le _, rfl, fun j _ hj => by omega⟩
 case round =>
  obtain ⟨k, hk, rfl, hno⟩ := hrel
  by_cases hlt : k < s.size
  ·have hwb := wrap_byte s[k]
   go_wp2
   ·go_ret
    rename_i he _
    exact ⟨ret_bool (has_yes k hlt (by exact (beq_iff_eq.1 he).symm)).symm, rfl⟩
   ·go_round
    case rel =>
     rename_i he
     refine ⟨k + 1, by omega, by go_num, fun j h hj => ?_⟩
     by_cases e : j = k
     ·subst e; exact Ne.symm (beq_eq_false_iff_ne.1 he)
     ·exact hno j h (by omega)
    case measure => simp [intOf]; omega
  ·obtain rfl : k = s.size := by omega
   go_wp2
   go_ret
   exact ⟨ret_bool (has_no fun j hj => hno j hj hj).symm, rfl⟩
theorem span_iff {n a b : Int} : span n a b = true ↔ a <= n /\ n <= b := by unfold span; simp
theorem has_flow (c : Int) : has ⟨#[44, 91, 93, 123, 125]⟩ c = true ↔ (c = 44 \/ c = 91 \/ c = 93 \/ c = 123 \/ c = 125) := by
 unfold has
 simp
 omega
theorem has_other (c : Int) : has ⟨#[45, 63, 58, 35, 38, 42, 33, 124, 62, 39, 34, 37, 64, 96]⟩ c = true ↔ (c = 45 \/ c = 63 \/ c = 58 \/ c = 35 \/ c = 38 \/ c = 42 \/ c = 33 \/ c = 124 \/ c = 62 \/ c = 39 \/ c = 34 \/ c = 37 \/ c = 64 \/ c = 96) := by
 unfold has
 simp
 omega
theorem has_sign (c : Int) : has ⟨#[45, 63, 58, 44, 91, 93, 123, 125, 35, 38, 42, 33, 124, 62, 39, 34, 37, 64, 96]⟩ c = true ↔ (c = 45 \/ c = 63 \/ c = 58 \/ c = 44 \/ c = 91 \/ c = 93 \/ c = 123 \/ c = 125 \/ c = 35 \/ c = 38 \/ c = 42 \/ c = 33 \/ c = 124 \/ c = 62 \/ c = 39 \/ c = 34 \/ c = 37 \/ c = 64 \/ c = 96) := by
 unfold has
 simp
 omega
def printP (c : Int) : Bool := decide (c = 9 \/ c = 10 \/ c = 13 \/ (32 <= c /\ c <= 126) \/ c = 133 \/ (160 <= c /\ c <= 55295) \/ (57344 <= c /\ c <= 65533) \/ (65536 <= c /\ c <= 1114111))
def blankP (c : Int) : Bool := decide (c = 32 \/ c = 9)
def flowP (c : Int) : Bool := decide (c = 44 \/ c = 91 \/ c = 93 \/ c = 123 \/ c = 125)
def signP (c : Int) : Bool := decide (c = 45 \/ c = 63 \/ c = 58 \/ c = 44 \/ c = 91 \/ c = 93 \/ c = 123 \/ c = 125 \/ c = 35 \/ c = 38 \/ c = 42 \/ c = 33 \/ c = 124 \/ c = 62 \/ c = 39 \/ c = 34 \/ c = 37 \/ c = 64 \/ c = 96)
def nameP (c : Int) : Bool := printP c && !blankP c && !flowP c && decide (c ≠ 10 /\ c ≠ 13 /\ c ≠ 65279)
theorem print_any (c : Int) (w : World) :
  Calls Tryz.prog 172 #[.int .i64 c] w fun e w' => e = .returned (.bool (printP c)) /\ w' = w := by
 go_enter Tryz.func172, Tryz.ntmps172
 go_wp2_with (first | (go_at_call 192; refine (within_any _ _ _ _).mono ?_; rintro e w' ⟨rfl, rfl⟩))
 all_goals
  go_ret
  refine ⟨ret_bool ?_, rfl⟩
  unfold printP
  rw [Bool.eq_iff_iff]
  simp only [span_iff, has_flow, has_other, has_sign, beq_iff_eq, beq_eq_false_iff_ne, bne_iff_ne, decide_eq_true_eq, Bool.or_eq_true, Bool.and_eq_true, Bool.not_eq_true', Bool.not_eq_eq_eq_not, Bool.not_true, Bool.not_false, Bool.false_eq_true, decide_eq_false_iff_not, ne_eq, iff_false, false_iff, true_iff, iff_true] at *
  try omega
theorem rprint_any (c : Int) (w : World) :
  Calls Tryz.prog 39 #[.int .i64 c] w fun e w' => e = .returned (.bool (printP c)) /\ w' = w := by
 go_enter Tryz.func39, Tryz.ntmps39
 go_wp2
 all_goals
  go_ret
  refine ⟨ret_bool ?_, rfl⟩
  unfold printP
  rw [Bool.eq_iff_iff]
  simp only [span_iff, has_flow, has_other, has_sign, beq_iff_eq, beq_eq_false_iff_ne, bne_iff_ne, decide_eq_true_eq, Bool.or_eq_true, Bool.and_eq_true, Bool.not_eq_true', Bool.not_eq_eq_eq_not, Bool.not_true, Bool.not_false, Bool.false_eq_true, decide_eq_false_iff_not, ne_eq, iff_false, false_iff, true_iff, iff_true] at *
  try omega
theorem blank_any (c : Int) (w : World) :
  Calls Tryz.prog 55 #[.int .i64 c] w fun e w' => e = .returned (.bool (blankP c)) /\ w' = w := by
 go_enter Tryz.func55, Tryz.ntmps55
 go_wp2
 all_goals
  go_ret
  refine ⟨ret_bool ?_, rfl⟩
  unfold blankP
  rw [Bool.eq_iff_iff]
  simp only [span_iff, has_flow, has_other, has_sign, beq_iff_eq, beq_eq_false_iff_ne, bne_iff_ne, decide_eq_true_eq, Bool.or_eq_true, Bool.and_eq_true, Bool.not_eq_true', Bool.not_eq_eq_eq_not, Bool.not_true, Bool.not_false, Bool.false_eq_true, decide_eq_false_iff_not, ne_eq, iff_false, false_iff, true_iff, iff_true] at *
  try omega
theorem flow_any (c : Int) (w : World) :
  Calls Tryz.prog 155 #[.int .i64 c] w fun e w' => e = .returned (.bool (flowP c)) /\ w' = w := by
 go_enter Tryz.func155, Tryz.ntmps155
 go_wp2_with (first | (go_at_call 156; refine (oneOf_any _ _ _ (by decide)).mono ?_; rintro e w' ⟨rfl, rfl⟩))
 all_goals
  go_ret
  refine ⟨ret_bool ?_, rfl⟩
  unfold flowP
  rw [Bool.eq_iff_iff]
  simp only [span_iff, has_flow, has_other, has_sign, beq_iff_eq, beq_eq_false_iff_ne, bne_iff_ne, decide_eq_true_eq, Bool.or_eq_true, Bool.and_eq_true, Bool.not_eq_true', Bool.not_eq_eq_eq_not, Bool.not_true, Bool.not_false, Bool.false_eq_true, decide_eq_false_iff_not, ne_eq, iff_false, false_iff, true_iff, iff_true] at *
  try omega
theorem nameP_iff (c : Int) : nameP c = true ↔ printP c = true /\ blankP c = false /\ flowP c = false /\ ¬ c = 10 /\ ¬ c = 13 /\ ¬ c = 65279 := by
 unfold nameP
 simp
 exact ⟨fun ⟨⟨⟨h1, h2⟩, h3⟩, h4⟩ => ⟨h1, h2, h3, h4⟩, fun ⟨h1, h2, h3, h4⟩ => ⟨⟨⟨h1, h2⟩, h3⟩, h4⟩⟩
theorem name_any (c : Int) (w : World) :
  Calls Tryz.prog 145 #[.int .i64 c] w fun e w' => e = .returned (.bool (nameP c)) /\ w' = w := by
 go_enter Tryz.func145, Tryz.ntmps145
 go_wp2_with (first | (go_at_call 172; refine (print_any _ _).mono ?_; rintro e w' ⟨rfl, rfl⟩) | (go_at_call 55; refine (blank_any _ _).mono ?_; rintro e w' ⟨rfl, rfl⟩) | (go_at_call 155; refine (flow_any _ _).mono ?_; rintro e w' ⟨rfl, rfl⟩))
 all_goals
  go_ret
  refine ⟨ret_bool ?_, rfl⟩
  rw [Bool.eq_iff_iff, nameP_iff]
  simp_all
end Go.Proofs.YtipbhdhiklmieaaGreatDoor
namespace Go.Proofs.YtipbhdhiklmieaaGreatDoor.P8
open Go.RowKit
def foldV (e : Int) : Value := if e = 0 then .agg #[.int .i64 32, .int .i64 1] else .agg #[.int .i64 10, .int .i64 e]
end Go.Proofs.YtipbhdhiklmieaaGreatDoor.P8
namespace Go.Proofs.YtipbhdhiklmieaaGreatDoor.P8
open Go.RowKit Go.Shelf
attribute [local go_sem] Oper.semAt_some
def encI (x : Int) : Array Value := #[.int .i64 x]
theorem repeat_in {n0 N B l : Nat} {J : (Nat -> Prop) -> List Int -> World -> Prop} (hJ : Abx B J) (hY : Rounds n0 N Tryz.prog l encI J) (n : Nat) (X : Nat -> Prop) (pre : List Int) (W : World) (c k : Int)
  (h0 : J X pre W) (hn : n0 <= W.heap.size) (hk : pre.length + k.toNat <= N) (hk2 : k <= 1099511627776) :
  CallsIn Fence.wide n Tryz.prog 187 #[.agg #[.int .i64 c, .int .i64 k], .func (.yield l) #[] #[]] W fun e W' => e = .returned (.bool true) /\ J X (pre ++ List.replicate k.toNat c) W' /\ Kx n0 l X W W' := by
 have hX : ∀ b, X b -> b < W.heap.size := fun b hb => hJ.lt X pre W b h0 hb
 have hJ1 := hJ.new X pre W (.cells #[.int .i64 c, .int .i64 k] 229) h0
 have hK1 : Kx n0 l X W (W.alloc (.cells #[.int .i64 c, .int .i64 k] 229)) := Kx.alloc hn hX _
 have hbk : (W.alloc (.cells #[.int .i64 c, .int .i64 k] 229)).heap[W.heap.size]? = some (.cells #[.int .i64 c, .int .i64 k] 229) := World.alloc_heap_new W _
 have HJ1 : Hid (J (more X W.heap.size) pre (W.alloc (.cells #[.int .i64 c, .int .i64 k] 229))) := hJ1
 have HK1 : Hid (Kx n0 l X W (W.alloc (.cells #[.int .i64 c, .int .i64 k] 229))) := hK1
 have HB : Hid ((W.alloc (.cells #[.int .i64 c, .int .i64 k] 229)).heap[W.heap.size]? = some (.cells #[.int .i64 c, .int .i64 k] 229)) := hbk
 clear hJ1 hK1 hbk
 refine callsIn_of_wp Tryz.func187 rfl trivial ?_ rfl
 simp only [Tryz.ntmps187, frm, Nat.reduceAdd, Nat.reduceSub]
 gi_wp2
 generalize W.alloc (.cells #[.int .i64 c, .int .i64 k] 229) = W1 at HJ1 HK1 HB |-
 gi_loopw [7] (fun iv wr => ∃ (j : Nat), (j : Int) <= max k 0 /\ iv = .int .i64 j /\ J (more X W.heap.size) (pre ++ List.replicate j c) wr /\ Kx n0 l (more X W.heap.size) W1 wr)
  (fun iv _ => k.toNat - (intOf iv).toNat)
 case atStart => exact ⟨0, by omega, rfl, by simpa using HJ1.out, Kx.refl _ _ _ _⟩
 case round =>
  obtain ⟨j, hj, rfl, hJs, hK⟩ := hrel
  have hb := (hK.own W.heap.size (.inr rfl)).trans HB.out
  have c0 : wr.cell? ⟨W.heap.size, 0, none⟩ = some (.int .i64 c) := by simp [World.cell?, hb]
  clear hb
  by_cases hlt : (j : Int) < k
  ·have Y := hY (n - 1) (more X W.heap.size) _ c wr hJs (by simp; omega)
   simp only [encI] at Y
   obtain ⟨fn, tmps, assign, body, hy, hR⟩ := Y
   clear hY hJ
   gi_wp2
   refine ⟨(fun h => by cases h), hR.mono ?_⟩
   rintro e3 W3 ⟨rfl, hJ3, hk3⟩
   clear hR hy
   gi_wp2
   go_roundw
   case rel =>
    refine ⟨j + 1, by omega, by go_num, ?_, hK.trans hk3⟩
    rw [List.append_assoc] at hJ3
    rw [List.replicate_succ']
    exact hJ3
   case measure => simp [intOf]; omega
  ·have hj2 : j = k.toNat := by omega
   subst hj2
   clear hY
   gi_wp2
   go_ret
   exact ⟨rfl, hJ.less _ _ _ _ hJs (fun b hb => .inl hb), HK1.out.trans (hK.less fun b hb => .inl hb)⟩
theorem take_more {t : List Int} {j : Nat} (h : j < t.length) : t.take (j + 1) = t.take j ++ [iAt t j] := by
 rw [List.take_add_one]
 simp [iAt, h]
theorem each_in {n0 N B l : Nat} {J : (Nat -> Prop) -> List Int -> World -> Prop} (hJ : Abx B J) (hY : Rounds n0 N Tryz.prog l encI J) (n : Nat) (X : Nat -> Prop) (pre : List Int) (W : World) (q : Option Addr) (t : List Int) (cap : Nat)
  (h0 : J X pre W) (hI : Is W q t) (hq : ∀ a, q = some a -> 0 < t.length -> a.block < n0) (hk : pre.length + t.length <= N) (hk2 : t.length <= 1099511627776) :
  CallsIn Fence.wide n Tryz.prog 189 #[.slice q t.length cap, .func (.yield l) #[] #[]] W fun e W' => e = .returned (.bool true) /\ J X (pre ++ t) W' /\ Kx n0 l X W W' := by
 refine callsIn_of_wp Tryz.func189 rfl trivial ?_ rfl
 simp only [Tryz.ntmps189, frm, Nat.reduceAdd, Nat.reduceSub]
 gi_wp2
 gi_loopw [9] (fun iv wr => ∃ (j : Nat), j <= t.length /\ iv = .int .i64 j /\ J X (pre ++ t.take j) wr /\ Kx n0 l X W wr)
  (fun iv _ => t.length - (intOf iv).toNat)
 case atStart => exact ⟨0, by omega, rfl, by simpa using h0, Kx.refl _ _ _ _⟩
 case round =>
  obtain ⟨j, hj, rfl, hJs, hK⟩ := hrel
  by_cases hlt : j < t.length
  ·have hli : (j : Int) < t.length := by omega
   have hIr : Is wr q t := hI.below hq hK.below
   obtain ⟨b, o, rfl, hcell⟩ := hIr.at (by omega)
   have c0 := hcell j hlt
   have Y := hY (n - 1) X _ (iAt t j) wr hJs (by simp; omega)
   have HT : Hid (t.take (j + 1) = t.take j ++ [iAt t j]) := take_more hlt
   simp only [encI] at Y
   obtain ⟨fn, tmps, assign, body, hy, hR⟩ := Y
   generalize iAt t j = x at c0 hy hR HT
   clear hY hJ hcell hIr
   gi_wp2
   refine ⟨(fun h => by cases h), hR.mono ?_⟩
   rintro e3 W3 ⟨rfl, hJ3, hk3⟩
   clear hR hy
   gi_wp2
   go_roundw
   case rel =>
    refine ⟨j + 1, by omega, by go_num, ?_, hK.trans hk3⟩
    rw [HT.out, <- List.append_assoc]
    exact hJ3
   case measure => simp [intOf]; omega
  ·have hj2 : j = t.length := by omega
   subst hj2
   clear hY
   rw [List.take_length] at hJs
   gi_wp2
   go_ret
   exact ⟨rfl, hJs, hK⟩
end Go.Proofs.YtipbhdhiklmieaaGreatDoor.P8
