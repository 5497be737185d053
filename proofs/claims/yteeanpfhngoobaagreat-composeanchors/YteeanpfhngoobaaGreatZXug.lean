/- The document's Compose: its walk. -/
import Derived.Test.YteeanpfhngoobaaGreatZXuf
import Derived.Test.YteeanpfhngoobaaGreatZXt1
set_option linter.all false
set_option maxRecDepth 100000
namespace Go.Proofs.YteeanpfhngoobaaGreat.Xk
open Go.RowKit

theorem rright_r {h : HP} {n : Nat} {v : Value} {L : List Ev} (he : EvAt h n v L) (hL : L.length ≤ 5864062014805) : CallR Tryz.prog 22 [v] h (fun u h' => u = .bool (rightP L) ∧ h' = h) := by
  refine ⟨⟨Tryz.f22, Tryz.func22, by kernel_rfl, by kernel_rfl⟩, fun B w0 m w hw hok => ?_⟩
  have fin : ∀ (q : Option Addr) (k c : Nat), k = L.length → L.length ≤ c → Es w q L → cT m v = .slice q k c → Calls Tryz.prog 22 ([v].map (cT m)).toArray w fun e w' => ∃ m' u h', Ext m m' h.nb ∧ h.nb ≤ h'.nb ∧ e = .returned (cT m' u) ∧ okT m' h'.nb u ∧ WR B w0 m' h' w' ∧ (u = .bool (rightP L) ∧ h' = h) := fun q k c e1 e2 e3 e4 => by
    rw [show ([v].map (cT m)).toArray = #[.slice q k c] by simp [e4]]
    refine (rRight_any q L k c w e1 hL e2 e3).mono fun e w' hq => ?_
    exact ⟨m, .bool (rightP L), h, Ext.refl, Nat.le_refl _, by rw [hq.1, right_eq]; rfl, trivial, hw.on hq.2, rfl, rfl⟩
  rcases he with ⟨rfl, rfl⟩ | ⟨b, off, c, rfl, hb, hr⟩
  · exact fin none 0 0 rfl (Nat.zero_le _) (.inl rfl) rfl
  · have hk : okT m h.nb (.slice (some ⟨b, off, none⟩) L.length c) := hok _ (List.mem_singleton.2 rfl)
    obtain ⟨k1, k2, k3, k4⟩ := hk
    have hroom : L.length ≤ room (m b) off := by
      have k4' : (m b).sh + off + c * (m b).es ≤ (m b).sz := k4
      unfold room
      have k2' : 0 < (m b).es := k2
      have k3' : L.length ≤ c := k3
      have : c ≤ ((m b).sz - ((m b).sh + off)) / (m b).es := (Nat.le_div_iff_mul_le k2').2 (by omega)
      omega
    obtain ⟨r, hg, hl, hle, hcs⟩ := read_ok hr
    refine fin (some (ca m b off)) L.length (room (m b) off) rfl hroom (es_of fun j u hj => ?_) rfl
    rw [hcs] at hj
    have hjn : j < L.length * 6 := by
      have := (List.getElem?_eq_some_iff.1 hj).1
      simp only [List.length_take, List.length_drop] at this
      omega
    rw [List.getElem?_take_of_lt hjn, List.getElem?_drop] at hj
    have := hw.at_ b r hg hl (off + j) u hj
    rw [← Nat.add_assoc] at this
    rw [this]
    have hs : scal u = true := by
      have hm : u ∈ Go.Proofs.YteeanpfhngoobaaGreat.flat L := by
        rw [hcs]
        exact List.mem_of_getElem? (i := j) (by rw [List.getElem?_take_of_lt hjn, List.getElem?_drop]; exact hj)
      exact flat_scal L u hm
    cases u <;> first | rfl | (simp [scal] at hs)
theorem lp_geq {P : Program} {tm : List Value} {x y : Operand} {t yt type : TypeId} {k : IntKind} {a b : Int} {dst : Option Tmp} {pos : String} {after : Array Edge} {guard : Option (Nat × Bool)} (hx : evl tm x = some (.int k a)) (hy : evl tm y = some (.int k b)) : lpure P tm ⟨dst, .binOp .geq t x y yt, type, pos, after, guard⟩ = some (.bool (decide (b ≤ a)), []) := lp_of (h := ⟨0, []⟩) hx hy (lop_geq hx hy)
theorem alloc51 {tm : List Value} {h : HP} {dst : Option Tmp} {type : TypeId} {pos : String} {after : Array Edge} {guard : Option (Nat × Bool)} : hop Tryz.prog noneK tm h ⟨dst, .alloc 51, type, pos, after, guard⟩ = some (.pointer (some ⟨h.nb, 0, none⟩), h.push ⟨[.int .i64 0, .string ⟨#[]⟩, .string ⟨#[]⟩, .slice none 0 0, .bool false], 1, true⟩) := by kernel_rfl
theorem bld64 (s : ByteArray) (n : Int) : pur Tryz.prog (Instr.build 64 #[(0, .string s), (1, .int .i64 n)]) = some (.agg #[.string s, .int .i64 n]) := by kernel_rfl
theorem zero64 : zeroC Tryz.prog 64 = true := by kernel_rfl
def sl10 (f : Nat → Value) : List Value := f 0 :: f 1 :: f 2 :: f 3 :: f 4 :: f 5 :: f 6 :: f 7 :: f 8 :: f 9 :: f 10 :: f 11 :: f 12 :: f 13 :: f 14 :: f 15 :: f 16 :: f 17 :: f 18 :: f 19 :: f 20 :: f 21 :: f 22 :: f 23 :: f 24 :: f 25 :: f 26 :: f 27 :: f 28 :: f 29 :: f 30 :: f 31 :: f 32 :: f 33 :: f 34 :: f 35 :: f 36 :: f 37 :: f 38 :: f 39 :: f 40 :: f 41 :: f 42 :: f 43 :: f 44 :: f 45 :: f 46 :: f 47 :: f 48 :: f 49 :: f 50 :: f 51 :: f 52 :: f 53 :: f 54 :: f 55 :: f 56 :: f 57 :: f 58 :: f 59 :: f 60 :: f 61 :: f 62 :: f 63 :: f 64 :: f 65 :: f 66 :: f 67 :: f 68 :: f 69 :: f 70 :: f 71 :: f 72 :: f 73 :: f 74 :: f 75 :: f 76 :: f 77 :: f 78 :: f 79 :: f 80 :: f 81 :: f 82 :: f 83 :: f 84 :: f 85 :: f 86 :: f 87 :: f 88 :: f 89 :: f 90 :: f 91 :: f 92 :: f 93 :: f 94 :: f 95 :: f 96 :: f 97 :: f 98 :: f 99 :: f 100 :: f 101 :: f 102 :: f 103 :: f 104 :: f 105 :: f 106 :: f 107 :: f 108 :: f 109 :: f 110 :: f 111 :: f 112 :: f 113 :: f 114 :: f 115 :: f 116 :: f 117 :: f 118 :: f 119 :: f 120 :: f 121 :: f 122 :: f 123 :: f 124 :: f 125 :: f 126 :: f 127 :: f 128 :: f 129 :: f 130 :: f 131 :: f 132 :: f 133 :: f 134 :: f 135 :: f 136 :: f 137 :: f 138 :: f 139 :: f 140 :: f 141 :: f 142 :: f 143 :: f 144 :: f 145 :: f 146 :: f 147 :: f 148 :: f 149 :: f 150 :: f 151 :: f 152 :: f 153 :: f 154 :: f 155 :: f 156 :: f 157 :: f 158 :: f 159 :: f 160 :: f 161 :: f 162 :: f 163 :: f 164 :: []
def DKx (h : HP) (M n : Nat) (G : List Nat) (s : CS) (os nm : Value) : Prop := ∃ ns rs on r oo po KI, DK h M n G s.N s.R s.O s.P ns rs os nm on r oo po KI
/-- What holds of the document's state behind so many events. -/
structure CI (L : List Ev) (D K : Int) (M n : Nat) (h1 g : HP) (os nm : Value) (i : Nat) : Prop where
  kp : Keep n h1 g
  le : n ≤ h1.nb
  ok : (goC D K (L.take i) ⟨[], [], [], []⟩).1 = 0
  dk : DKx g M n [] (goC D K (L.take i) ⟨[], [], [], []⟩).2 os nm
  rel : Rel (goC D K (L.take i) ⟨[], [], [], []⟩).2 (goP D K (L.take i) ps0).2 D K
  okp : (goP D K (L.take i) ps0).1 = 0
  st : ∃ st, rn [0] (L.take i) = some st ∧ Good st (goP D K (L.take i) ps0).2 (3 * i)
  pl : (goC D K (L.take i) ⟨[], [], [], []⟩).2.P.length ≤ i
theorem stepC_len (D K : Int) (s : CS) (e : Ev) : (stepC D K s e).2.P.length ≤ s.P.length + 1 := by
  unfold stepC
  repeat' split
  all_goals first | (simp; done) | (simp; omega) | simp
theorem DK.start {h : HP} {M n : Nat} (hn : n ≤ M) (hg : h.get M = some ⟨[.slice none 0 0, .slice none 0 0], 1, true⟩) : DKx h M n [] ⟨[], [], [], []⟩ (.slice none 0 0) (.slice none 0 0) := by
  have := get_lt hg
  refine ⟨.slice none 0 0, .slice none 0 0, none, none, none, none, [], hg, hn, rfl, fun i x k h => by simp at h, ⟨fun x hx => ?_, fun b hb => ?_, ?_⟩, fun b hb => ?_, by omega⟩
  · simp [lists] at hx
    rcases hx with rfl | rfl | rfl | rfl <;> exact ⟨rfl, .inl ⟨rfl, rfl, rfl⟩⟩
  · simp at hb
    omega
  · show ([M] : List Nat).Nodup
    simp
  · have hb' : b ∈ ([] : List Nat) := hb
    cases hb'
theorem sl10_map (f : Nat → Value) : sl10 f = (List.range 165).map f := by kernel_rfl
theorem sl10_of (t : List Value) (h : t.length = 165) : t = sl10 (fun k => t.getD k undef) := by
  rw [sl10_map]
  refine List.ext_getElem (by simp [h]) fun i h1 h2 => ?_
  simp [h1]
theorem kinds_of {x : Ev} (hc : cleanP x = true) : x.k = 1 ∨ x.k = 2 ∨ x.k = 4 ∨ x.k = 6 ∨ x.k = 8 ∨ x.k = 3 ∨ x.k = 5 ∨ x.k = 7 := by
  unfold cleanP at hc
  by_cases h1 : x.k = 1 ∨ x.k = 2
  · rcases h1 with h | h <;> simp [h]
  · rw [if_neg h1] at hc
    by_cases h2 : x.k = 3 ∨ x.k = 5
    · rcases h2 with h | h <;> simp [h]
    · rw [if_neg h2] at hc
      by_cases h3 : x.k = 4 ∨ x.k = 6
      · rcases h3 with h | h <;> simp [h]
      · rw [if_neg h3] at hc
        by_cases h4 : x.k = 7
        · simp [h4]
        · rw [if_neg h4] at hc
          by_cases h5 : x.k = 8
          · simp [h5]
          · rw [if_neg h5] at hc
            cases hc
theorem st_at {L : List Ev} {i : Nat} {e : Ev} {st : List Nat} (hr : rightP L = true) (he : L[i]? = some e) (a4 : rn [0] (L.take i) = some st) : ∃ st', stp st e.k = some st' ∧ rn [0] (L.take (i + 1)) = some st' := by
  have hlt := (List.getElem?_eq_some_iff.1 he).1
  have hsplit : L = L.take i ++ e :: L.drop (i + 1) := by
    conv => lhs; rw [← List.take_append_drop i L, List.drop_eq_getElem_cons hlt]
    rw [(List.getElem?_eq_some_iff.1 he).2]
  have hrn := ((rightP_iff L).1 hr).2
  rw [hsplit] at hrn
  obtain ⟨st1, st2, b1, b2, b3⟩ := rn_split _ _ _ _ _ hrn
  rw [a4] at b1
  cases b1
  exact ⟨st2, b2, by rw [take_snoc he]; exact b3⟩
theorem CI.next {L : List Ev} {D K : Int} {M n : Nat} {h1 g g' : HP} {os nm os' nm' : Value} {i : Nat} {e : Ev} (hc : CI L D K M n h1 g os nm i) (hr : rightP L = true) (he : L[i]? = some e) (hk : Keep n g g')
    (h0 : (stepC D K (goC D K (L.take i) ⟨[], [], [], []⟩).2 e).1 = 0) (hd : DKx g' M n [] (stepC D K (goC D K (L.take i) ⟨[], [], [], []⟩).2 e).2 os' nm') : CI L D K M n h1 g' os' nm' (i + 1) := by
  obtain ⟨ckp, cle, cok, cdk, crel, cokp, ⟨st, cst, cgood⟩, cpl⟩ := hc
  have hce : cleanP e = true := List.all_eq_true.1 ((rightP_iff L).1 hr).1 e (List.mem_of_getElem? he)
  obtain ⟨t1, t2⟩ := stepC_take crel hce cgood.it
  have t3 := t2 h0
  rw [t1] at h0
  obtain ⟨st', e1, e2⟩ := st_at hr he cst
  have hgoP : goP D K (L.take (i + 1)) ps0 = (0, (takeP D K (goP D K (L.take i) ps0).2 e).2) := by
    rw [take_snoc he, goP_app, if_pos cokp]
    show (if (takeP D K (goP D K (L.take i) ps0).2 e).1 = 0 then (0, (takeP D K (goP D K (L.take i) ps0).2 e).2) else _) = _
    rw [if_pos h0]
  have hgoC : goC D K (L.take (i + 1)) ⟨[], [], [], []⟩ = (0, (stepC D K (goC D K (L.take i) ⟨[], [], [], []⟩).2 e).2) := by
    rw [take_snoc he, goC_app, if_pos cok]
    show (if (stepC D K (goC D K (L.take i) ⟨[], [], [], []⟩).2 e).1 = 0 then (0, (stepC D K (goC D K (L.take i) ⟨[], [], [], []⟩).2 e).2) else _) = _
    rw [if_pos (t1.trans h0)]
  refine ⟨ckp.trans hk, cle, by rw [hgoC], by rw [hgoC]; exact hd, by rw [hgoC, hgoP]; exact t3, by rw [hgoP], ⟨st', e2, ?_⟩, ?_⟩
  · rw [hgoP, show 3 * (i + 1) = 3 * i + 3 by omega]
    exact take_good cgood e1 h0
  · rw [hgoC]
    have := stepC_len D K (goC D K (L.take i) ⟨[], [], [], []⟩).2 e
    show (stepC D K (goC D K (L.take i) ⟨[], [], [], []⟩).2 e).2.P.length ≤ i + 1
    omega
theorem CI.err {L : List Ev} {D K : Int} {M n : Nat} {h1 g : HP} {os nm : Value} {i : Nat} {e : Ev} (hc : CI L D K M n h1 g os nm i) (he : L[i]? = some e) (h0 : (stepC D K (goC D K (L.take i) ⟨[], [], [], []⟩).2 e).1 ≠ 0) :
    (goC D K L ⟨[], [], [], []⟩).1 = (stepC D K (goC D K (L.take i) ⟨[], [], [], []⟩).2 e).1 := by
  have hlt := (List.getElem?_eq_some_iff.1 he).1
  have hsplit : L = L.take i ++ e :: L.drop (i + 1) := by
    conv => lhs; rw [← List.take_append_drop i L, List.drop_eq_getElem_cons hlt]
    rw [(List.getElem?_eq_some_iff.1 he).2]
  have key : ∀ A B, L = A ++ e :: B → (goC D K A ⟨[], [], [], []⟩).1 = 0 → ¬ (stepC D K (goC D K A ⟨[], [], [], []⟩).2 e).1 = 0 → (goC D K L ⟨[], [], [], []⟩).1 = (stepC D K (goC D K A ⟨[], [], [], []⟩).2 e).1 := by
    intro A B hAB h1 h2
    rw [hAB, goC_app, if_pos h1]
    show (if (stepC D K (goC D K A ⟨[], [], [], []⟩).2 e).1 = 0 then _ else ((stepC D K (goC D K A ⟨[], [], [], []⟩).2 e).1, (goC D K A ⟨[], [], [], []⟩).2)).1 = _
    rw [if_neg h2]
  exact key _ _ hsplit hc.ok h0
theorem DK.touch {h h' : HP} {M n : Nat} {G l : List Nat} {N : List Nd} {R : List Int} {O : List Nat} {P : List (ByteArray × Nat)} {ns rs os nm : Value} {on r oo po : Option Nat} {KI : List It} (hd : DK h M n G N R O P ns rs os nm on r oo po KI) (he : Else h h' l) (hl : ∀ b ∈ l, b ∈ G) : DK h' M n G N R O P ns rs os nm on r oo po KI :=
  ⟨(he.2 M (get_lt hd.box) fun hm => hd.ne.2 (hl M hm)).trans hd.box, hd.le, hd.kl, hd.kids, hd.ls.s.else he fun b hb hm => hd.other b (hl b hm) hb, hd.ls.lo, by have := hd.ls.le; have := he.1; omega⟩
theorem all2L {a b : Value} (h : isCell a = true ∧ isCell b = true) : ∀ (i : Nat) (x : i < 2), isCell ([a, b] : List Value)[i] = true := by
  obtain ⟨h0, h1⟩ := h
  intro i hi
  match i, hi with
  | 0, _ => exact h0
  | 1, _ => exact h1
theorem DK.gr {h : HP} {M n : Nat} {G : List Nat} {N : List Nd} {R : List Int} {O : List Nat} {P : List (ByteArray × Nat)} {ns rs os nm : Value} {on r oo po : Option Nat} {KI : List It} (hd : DK h M n G N R O P ns rs os nm on r oo po KI) : GrAt h ns rs N R :=
  ⟨on, r, KI.map It.v, KI.map It.own, hd.nodes, hd.roots, by simp [hd.kl], by simp [hd.kl], fun i x v o h1 h2 h3 => by
    obtain ⟨k, hk⟩ : ∃ k, KI[i]? = some k := ⟨_, List.getElem?_eq_getElem (by have := (List.getElem?_eq_some_iff.1 h1).1; have := hd.kl; omega)⟩
    have e2 : v = k.v := by simpa [hk] using h2.symm
    have e3 : o = k.own := by simpa [hk] using h3.symm
    obtain ⟨k1, k2, k3⟩ := hd.kids i x k h1 hk
    have := hd.ls.s.l k (by simp [lists, List.mem_of_getElem? hk])
    unfold It.at_ at this
    rw [k1, k2, k3] at this
    rw [e2, e3]
    exact this⟩
theorem DK.low {h h' : HP} {M n : Nat} {G l : List Nat} {N : List Nd} {R : List Int} {O : List Nat} {P : List (ByteArray × Nat)} {ns rs os nm : Value} {on r oo po : Option Nat} {KI : List It} (hd : DK h M n G N R O P ns rs os nm on r oo po KI) (he : Else h h' l) (hl : ∀ b ∈ l, b < n) : DK h' M n G N R O P ns rs os nm on r oo po KI :=
  ⟨(he.2 M (get_lt hd.box) fun hm => by have := hl M hm; have := hd.le; omega).trans hd.box, hd.le, hd.kl, hd.kids, hd.ls.s.else he fun b hb hm => by have := hl b hm; have := hd.ls.lo b hb; omega, hd.ls.lo, by have := hd.ls.le; have := he.1; omega⟩
/-- What a round's switch leaves. -/
def SW (L : Nat) (p : Option Addr) (c : Nat) (D K : Int) (r0 M n B i : Nat) (g1 : HP) (s : CS) (e : Ev) (ex : Exit) (t : List Value) (g : HP) : Prop :=
  ∃ f, t = sl10 f ∧ f 0 = .slice p L c ∧ f 1 = .int .i64 D ∧ f 2 = .int .i64 K ∧ f 6 = .pointer (some ⟨r0, 0, none⟩) ∧ f 8 = .pointer (some ⟨M, 0, none⟩) ∧ f 11 = .int .i64 i ∧ f 12 = .pointer (some ⟨B, 0, none⟩) ∧
    match ex with
    | .normal => f 7 = .int .i64 0 ∧ ∃ (m : Nat) (s1 : CS), f 13 = .int .i64 m ∧ DKx g M n [B] s1 (f 9) (f 10) ∧ Kp n [B] g1 g ∧ Bd s1.N s1.R s1.O (3 * i + 1) ∧
        stepC D K s e = (0, ⟨(putN s1.N s1.R s1.O m).1, (putN s1.N s1.R s1.O m).2, if e.k = 3 ∨ e.k = 5 then s1.O ++ [m] else s1.O, s1.P⟩)
    | .exit q => q = 1 ∧ f 7 = .int .i64 0 ∧ DKx g M n [] (stepC D K s e).2 (f 9) (f 10) ∧ Kp n [] g1 g ∧ (stepC D K s e).1 = 0
    | .ret => ∃ x : Int, x ≠ 0 ∧ (stepC D K s e).1 = x ∧ f 7 = .int .i64 x ∧ g.get r0 = some ⟨[.slice none 0 0, .slice none 0 0], 1, true⟩ ∧ g1.nb ≤ g.nb ∧ ∀ k, k < r0 → g.get k = g1.get k
    | _ => False
/-- Behind a put. -/
def PT (L : Nat) (p : Option Addr) (c : Nat) (D K : Int) (r0 M n B i : Nat) (g0 : HP) (m : Nat) (s1 : CS) (ex : Exit) (t : List Value) (g : HP) : Prop :=
  ex = .normal ∧ ∃ f, t = sl10 f ∧ f 0 = .slice p L c ∧ f 1 = .int .i64 D ∧ f 2 = .int .i64 K ∧ f 6 = .pointer (some ⟨r0, 0, none⟩) ∧ f 7 = .int .i64 0 ∧ f 8 = .pointer (some ⟨M, 0, none⟩) ∧ f 11 = .int .i64 i ∧ f 12 = .pointer (some ⟨B, 0, none⟩) ∧ f 13 = .int .i64 m ∧
    DKx g M n [B] ⟨(putN s1.N s1.R s1.O m).1, (putN s1.N s1.R s1.O m).2, s1.O, s1.P⟩ (f 9) (f 10) ∧ Kp n [B] g0 g
/-- The loop over the names. -/
def LI (len : Nat) (p : Option Addr) (c : Nat) (D K : Int) (r0 M B i : Nat) (os : Value) (pm : Option Addr) (cm : Nat) (P : List (ByteArray × Nat)) (an : ByteArray) (jj : Nat) (g1 : HP) (t : List Value) (g : HP) : Prop :=
  ∃ f, t = sl10 f ∧ f 0 = .slice p len c ∧ f 1 = .int .i64 D ∧ f 2 = .int .i64 K ∧ f 6 = .pointer (some ⟨r0, 0, none⟩) ∧ f 7 = .int .i64 0 ∧ f 8 = .pointer (some ⟨M, 0, none⟩) ∧ f 9 = os ∧ f 10 = .slice pm P.length cm ∧ f 11 = .int .i64 i ∧ f 12 = .pointer (some ⟨B, 0, none⟩) ∧ f 13 = .int .i64 (match pfind (P.take jj) an with | none => -1 | some q => (q : Int)) ∧ f 14 = .int .i64 jj ∧ g = g1
/-- The loop over the events. -/
def OI (L : List Ev) (p : Option Addr) (c : Nat) (D K : Int) (r0 M n i : Nat) (h1 : HP) (t : List Value) (g : HP) : Prop :=
  ∃ f, t = sl10 f ∧ f 0 = .slice p L.length c ∧ f 1 = .int .i64 D ∧ f 2 = .int .i64 K ∧ f 6 = .pointer (some ⟨r0, 0, none⟩) ∧ f 7 = .int .i64 0 ∧ f 8 = .pointer (some ⟨M, 0, none⟩) ∧ f 11 = .int .i64 i ∧ CI L D K M n h1 g (f 9) (f 10) i
/-- What the document's Compose answers. -/
def compP (L : List Ev) (depth nodes : Int) : Int × List Nd × List Int :=
  if rightP L then (let r := goC (cutP depth 200) (cutP nodes 20000) L ⟨[], [], [], []⟩; if r.1 = 0 then (0, r.2.N, r.2.R) else (r.1, [], [])) else (1, [], [])

theorem xres10 {tm : List Value} {h : HP} {b : Nat} {x y u : Value} (h6 : tm.getD 6 undef = .pointer (some ⟨b, 0, none⟩)) (hg : h.get b = some ⟨[x, y], 1, true⟩) (h7 : tm.getD 7 undef = u) : xres Tryz.prog tm h Tryz.f10.results.toList = some [.agg #[x, y], u] := by
  obtain ⟨i28, hi28, hs28⟩ := size28
  show xres Tryz.prog tm h [.cell 6 28, .tmp 7] = _
  have hr : h.read b 0 2 = some [x, y] := by
    unfold HP.read
    rw [hg]
    rfl
  unfold xres
  rw [Tryz.underlying28, hi28, h6]
  simp [aggD, hs28, hr, xres, ← h7]
set_option maxHeartbeats 8000000 in
theorem compose_r {h : HP} {v : Value} {L : List Ev} {depth nodes : Int} (he : EvAt h h.nb v L) (hL : L.length ≤ 1954687338268) :
    CallR Tryz.prog 10 [v, .int .i64 depth, .int .i64 nodes] h (fun u h' => Keep h.nb h h' ∧ ∃ ns rs, u = .tuple #[.agg #[ns, rs], .int .i64 (compP L depth nodes).1] ∧ GrAt h' ns rs (compP L depth nodes).2.1 (compP L depth nodes).2.2) := by
  obtain ⟨i28, hi28, hs28⟩ := size28
  obtain ⟨i22, hi46, hs46⟩ := size46
  obtain ⟨p, c, hv⟩ : ∃ p c, v = .slice p L.length c := by
    rcases he with ⟨rfl, rfl⟩ | ⟨b, off, c, rfl, -⟩
    · exact ⟨_, _, rfl⟩
    · exact ⟨_, _, rfl⟩
  have hk0 : Keep h.nb h (h.push ⟨[.slice none 0 0, .slice none 0 0], 1, true⟩) := ⟨by show h.nb ≤ h.nb + 1; omega, fun k hk => get_push_old _ (by omega)⟩
  have he0 := he.keep hk0
  have hg0 : (h.push ⟨[.slice none 0 0, .slice none 0 0], 1, true⟩).get h.nb = some ⟨[.slice none 0 0, .slice none 0 0], 1, true⟩ := get_push_new _
  refine CallR.of_body1 Tryz.func10 (by kernel_rfl) rfl fun Q hQ => ?_
  show CodeR _ _ ([v, .int .i64 depth, .int .i64 nodes] ++ List.replicate 162 undef) h _
  simp only [List.replicate, List.cons_append, List.nil_append]
  refine CodeR.seq (CodeR.region ?_)
  simp [OpR, xwant, lightK, lop, evl, flat, flat0, putT, thenR, List.range, List.range.loop, callAt, isApp]
  rw [alloc28]
  dsimp only
  refine CodeR.seq (CodeR.seq (CodeR.region ?_))
  simp [OpR, xwant, lightK, lop, evl, flat, flat0, putT, thenR, List.range, List.range.loop, isLen, isMM, callAt, isApp, isFn, evls]
  generalize hh0 : h.push ⟨[.slice none 0 0, .slice none 0 0], 1, true⟩ = h0 at hk0 he0 hg0 ⊢
  refine (rright_r he0 (by omega)).mono ?_
  rintro u h' ⟨rfl, rfl⟩
  rw [lp_not (z := rightP L) rfl]
  simp [OpR]
  cases hr : rightP L
  · refine CodeR.cond (b := true) (by simp [evl, hr]) ?_
    simp only [if_true]
    refine CodeR.seq (CodeR.region ?_)
    simp [OpR, xwant, lightK, lop, evl, flat, flat0, putT, thenR, List.range, List.range.loop, callAt, isApp, evps, zero28, bld28]
    have hw : h'.write h.nb 0 [.slice none 0 0, .slice none 0 0] = some (h'.put h.nb ⟨[.slice none 0 0, .slice none 0 0], 1, true⟩) := by
      unfold HP.write
      rw [hg0]
      rfl
    rw [if_pos (show isCell (.slice none 0 0) = true from rfl)]
    dsimp only
    rw [hop_store (b := h.nb) (off := 0) (v := .agg #[.slice none 0 0, .slice none 0 0]) (cs := [.slice none 0 0, .slice none 0 0]) hi28 rfl rfl rfl (by rw [hs28]; rfl) rfl hw]
    dsimp only
    refine CodeR.ret ?_
    try simp only [thenR]
    have hp : compP L depth nodes = (1, [], []) := by unfold compP; rw [hr]; rfl
    refine hQ _ _ _ [.agg #[.slice none 0 0, .slice none 0 0], .int .i64 1] (.inr rfl) (xres10 rfl (get_put_same hg0 _) rfl) (.inr ⟨by simp, rfl, ⟨hk0.1, fun k hk => ?_⟩, .slice none 0 0, .slice none 0 0, ?_⟩)
    · rw [get_put_ne hg0 _ (by omega)]
      exact hk0.2 k hk
    · rw [hp]
      exact ⟨rfl, GrAt.nil _⟩
  · refine CodeR.cond (b := false) (by simp [evl, hr]) ?_
    simp only [Bool.false_eq_true, if_false]
    refine CodeR.skip ?_
    simp only [thenR]
    refine CodeR.seq (CodeR.region ?_)
    simp [OpR, xwant, lightK, lop, evl, flat, flat0, putT, thenR, List.range, List.range.loop, isLen, isMM, callAt, isApp, isFn, evls]
    refine (rcut_r depth 200 _).mono ?_
    rintro u h1 ⟨rfl, rfl⟩
    try simp [OpR, putT]
    refine CodeR.seq (CodeR.region ?_)
    simp [OpR, xwant, lightK, lop, evl, flat, flat0, putT, thenR, List.range, List.range.loop, isLen, isMM, callAt, isApp, isFn, evls]
    refine (rcut_r nodes 20000 _).mono ?_
    rintro u h1 ⟨rfl, rfl⟩
    try simp [OpR, putT]
    have hDe : (if depth < 0 then (0 : Int) else if 200 < depth then 200 else depth) = cutP depth 200 := rfl
    have hKe : (if nodes < 0 then (0 : Int) else if 20000 < nodes then 20000 else nodes) = cutP nodes 20000 := rfl
    rw [hDe, hKe]
    have hD0 : 0 ≤ cutP depth 200 := by unfold cutP; repeat' split <;> omega
    have hK0 : 0 ≤ cutP nodes 20000 := by unfold cutP; repeat' split <;> omega
    generalize hD : cutP depth 200 = D at hD0 ⊢
    generalize hK : cutP nodes 20000 = K at hK0 ⊢
    refine CodeR.seq (CodeR.region ?_)
    simp [OpR, xwant, lightK, lop, evl, flat, flat0, putT, thenR, List.range, List.range.loop, callAt, isApp]
    rw [alloc28]
    dsimp only
    refine CodeR.seq (CodeR.region ?_)
    simp [OpR, xwant, lightK, lop, evl, flat, flat0, putT, thenR, List.range, List.range.loop, callAt, isApp]
    refine CodeR.seq (CodeR.region ?_)
    simp [OpR, xwant, lightK, lop, evl, flat, flat0, putT, thenR, List.range, List.range.loop, callAt, isApp]
    refine CodeR.seq (CodeR.seq (CodeR.region ?_))
    simp [OpR, xwant, lightK, lop, evl, flat, flat0, putT, thenR, List.range, List.range.loop, callAt, isApp]
    refine CodeR.block ?_
    have hgM : (h1.push ⟨[.slice none 0 0, .slice none 0 0], 1, true⟩).get h1.nb = some ⟨[.slice none 0 0, .slice none 0 0], 1, true⟩ := get_push_new _
    have hk1 : Keep h1.nb h1 (h1.push ⟨[.slice none 0 0, .slice none 0 0], 1, true⟩) := ⟨by show h1.nb ≤ h1.nb + 1; omega, fun k hk => get_push_old _ (by omega)⟩
    have hdk := DK.start (n := h1.nb) (Nat.le_refl _) hgM
    generalize h1.push ⟨[.slice none 0 0, .slice none 0 0], 1, true⟩ = h2 at hgM hk1 hdk ⊢
    subst hv
    refine CodeR.loop (fun j t g => ∃ (i : Nat), i ≤ L.length ∧ j = L.length - i ∧ OI L p c D K h.nb h1.nb h1.nb i h1 t g) (n := L.length) ⟨0, Nat.zero_le _, rfl, fun k => List.getD (.slice p L.length c :: .int .i64 D :: .int .i64 K :: undef :: undef :: undef :: .pointer (some ⟨h.nb, 0, none⟩) :: .int .i64 0 :: .pointer (some ⟨h1.nb, 0, none⟩) :: .slice none 0 0 :: .slice none 0 0 :: .int .i64 0 :: undef :: undef :: undef :: undef :: undef :: undef :: .slice p L.length c :: .bool true :: .bool false :: undef :: .int .i64 depth :: .int .i64 D :: .int .i64 nodes :: .int .i64 K :: undef :: undef :: undef :: undef :: undef :: undef :: undef :: undef :: undef :: undef :: undef :: undef :: undef :: undef :: undef :: undef :: undef :: undef :: undef :: undef :: undef :: undef :: undef :: undef :: undef :: undef :: undef :: undef :: undef :: undef :: undef :: undef :: undef :: undef :: undef :: undef :: undef :: undef :: undef :: undef :: undef :: undef :: undef :: undef :: undef :: undef :: undef :: undef :: undef :: undef :: undef :: undef :: undef :: undef :: undef :: undef :: undef :: undef :: undef :: undef :: undef :: undef :: undef :: undef :: undef :: undef :: undef :: undef :: undef :: undef :: undef :: undef :: undef :: undef :: undef :: undef :: undef :: undef :: undef :: undef :: undef :: undef :: undef :: undef :: undef :: undef :: undef :: undef :: undef :: undef :: undef :: undef :: undef :: undef :: undef :: undef :: undef :: undef :: undef :: undef :: undef :: undef :: undef :: undef :: undef :: undef :: undef :: undef :: undef :: undef :: undef :: undef :: undef :: undef :: undef :: undef :: undef :: undef :: undef :: undef :: undef :: undef :: undef :: undef :: undef :: undef :: undef :: undef :: undef :: undef :: undef :: undef :: undef :: undef :: undef :: undef :: undef :: undef :: undef :: []) k undef, rfl, rfl, rfl, rfl, rfl, rfl, rfl, rfl, hk1, Nat.le_refl _, rfl, hdk, ⟨rfl, rfl, rfl, fun a => rfl, hD0, hK0⟩, rfl, ⟨[0], rfl, Good.start⟩, Nat.zero_le _⟩ ?_
    rintro j t g ⟨i, hi, rfl, f, rfl, f0, f1, f2, f6, f7, f8, f11, hci⟩
    have hnb1 : h1.nb = h.nb + 1 := by rw [← hh0]; rfl
    unfold sl10
    rw [f0, f1, f2, f6, f7, f8, f11]
    generalize f 9 = os at hci ⊢
    generalize f 10 = nm at hci ⊢
    refine CodeR.seq (CodeR.seq (CodeR.region ?_))
    simp [OpR, xwant, lightK, lop, evl, flat, flat0, putT, thenR, List.range, List.range.loop, isLen, Tryz.underlying22]
    simp only [nilEq_int]
    rw [lp_lss (k := .i64) (a := (i : Nat)) (b := (L.length : Nat)) rfl rfl]
    simp [OpR]
    by_cases hlt : i < L.length
    · refine CodeR.cond (b := true) (by simp [evl, hlt]) ?_
      simp only [if_true]
      refine CodeR.skip ?_
      simp only [thenR]
      obtain ⟨e, hev⟩ : ∃ e, L[i]? = some e := ⟨_, List.getElem?_eq_getElem hlt⟩
      have heg := he0.keep (n := h.nb) (h' := g) ⟨hci.kp.1, fun k hk => hci.kp.2 k (by omega)⟩
      rcases heg with ⟨-, hn⟩ | ⟨b, off, c', hsl, hbn, hrdL⟩
      · subst hn
        simp at hlt
      cases hsl
      have hrde := EvAt.at_ (c := c) (n := h.nb) hrdL hev
      refine CodeR.seq (CodeR.block (CodeR.seq (CodeR.region ?_)))
      simp [OpR, xwant, lightK, lop, evl, flat, flat0, putT, thenR, List.range, List.range.loop, Tryz.underlying22, Tryz.underlying46, hi46, hs46, aggD, hlt, hrde, isLen, isMM, callAt, isApp, isFn, evls]
      rw [alloc46]
      dsimp only
      have hgz : (g.push ⟨[.int .i64 0, .string ⟨#[]⟩, .string ⟨#[]⟩, .string ⟨#[]⟩, .int .i64 0, .bool false], 1, true⟩).get g.nb = some ⟨[.int .i64 0, .string ⟨#[]⟩, .string ⟨#[]⟩, .string ⟨#[]⟩, .int .i64 0, .bool false], 1, true⟩ := get_push_new _
      have hw2 : (g.push ⟨[.int .i64 0, .string ⟨#[]⟩, .string ⟨#[]⟩, .string ⟨#[]⟩, .int .i64 0, .bool false], 1, true⟩).write g.nb 0 (evC e) = some ((g.push ⟨[.int .i64 0, .string ⟨#[]⟩, .string ⟨#[]⟩, .string ⟨#[]⟩, .int .i64 0, .bool false], 1, true⟩).put g.nb ⟨evC e, 1, true⟩) := by
        unfold HP.write
        rw [hgz]
        rfl
      rw [hop_store (b := g.nb) (off := 0) (v := .agg (evC e).toArray) (cs := evC e) hi46 rfl rfl rfl (by rw [hs46]; rfl) rfl hw2]
      dsimp only
      have hkz : Keep g.nb g ((g.push ⟨[.int .i64 0, .string ⟨#[]⟩, .string ⟨#[]⟩, .string ⟨#[]⟩, .int .i64 0, .bool false], 1, true⟩).put g.nb ⟨evC e, 1, true⟩) := ⟨by show g.nb ≤ g.nb + 1; omega, fun k hk => by rw [get_put_ne hgz _ (by omega), get_push_old _ (by omega)]⟩
      have hg1 := get_put_same hgz ⟨evC e, 1, true⟩
      have hB : g.nb < ((g.push ⟨[.int .i64 0, .string ⟨#[]⟩, .string ⟨#[]⟩, .string ⟨#[]⟩, .int .i64 0, .bool false], 1, true⟩).put g.nb ⟨evC e, 1, true⟩).nb := by show g.nb < g.nb + 1; omega
      generalize (g.push ⟨[.int .i64 0, .string ⟨#[]⟩, .string ⟨#[]⟩, .string ⟨#[]⟩, .int .i64 0, .bool false], 1, true⟩).put g.nb ⟨evC e, 1, true⟩ = g1 at hkz hg1 hB ⊢
      have hci0 := hci
      obtain ⟨ckp, cle, cok, ⟨ns, rs, on, r, oo, po, KI, hd0⟩, crel, cokp, ⟨st, cst, cgood⟩, cpl⟩ := hci
      have hd := hd0.hold (b := g.nb) hkz (Nat.le_refl _) hB
      have hgB : g1.get g.nb = some ⟨[.int .i64 e.k, .string e.tx, .string e.tg, .string e.an, .int .i64 e.st, .bool e.fl], 1, true⟩ := hg1
      have rM0 := read1 hd.box (o := 0) (v := ns) rfl
      have rB0 := read1 hgB (o := 0) (v := .int .i64 e.k) rfl
      obtain ⟨pn, cn, hns⟩ := lst_slice hd.nodes
      obtain ⟨i25, hi25, hs25⟩ := size25
      obtain ⟨i3, hi3, hs3, hz3, hb3⟩ := int3
      refine CodeR.seq (CodeR.region ?_)
      simp [OpR, xwant, lightK, lop, evl, flat, flat0, putT, thenR, List.range, List.range.loop, Tryz.underlying28, Tryz.underlying25, hi28, hs28, hi25, hs25, aggD, rM0, hns, isLen, isMM, callAt, isApp, isFn, evls]
      refine CodeR.seq (CodeR.seq (CodeR.region ?_))
      simp [OpR, xwant, lightK, lop, evl, flat, flat0, putT, thenR, List.range, List.range.loop, Tryz.underlying46, Tryz.underlying3, hi46, hs46, hi3, hs3, aggD, rB0, isLen, isMM, callAt, isApp, isFn, evls]
      have hce : cleanP e = true := List.all_eq_true.1 ((rightP_iff L).1 hr).1 e (List.mem_of_getElem? hev)
      obtain ⟨st', hst1, hst2⟩ := st_at hr hev cst
      have hpop0 : (e.k = 4 ∨ e.k = 6) → (goP D K (L.take i) ps0).2.O ≠ [] := fun h => ((stp_ok cgood.ok hst1).1 h).1
      have hbd0 := cgood.bd
      rw [← crel.N, ← crel.R, ← crel.O] at hbd0
      rw [← crel.O] at hpop0
      have hgr1 : g1.get h.nb = some ⟨[.slice none 0 0, .slice none 0 0], 1, true⟩ := by
        rw [hkz.2 h.nb (by have := ckp.1; omega), ckp.2 h.nb (by omega)]
        exact hg0
      have hwrr : g1.write h.nb 0 [.slice none 0 0, .slice none 0 0] = some (g1.put h.nb ⟨[.slice none 0 0, .slice none 0 0], 1, true⟩) := by
        unfold HP.write
        rw [hgr1]
        rfl
      refine CodeR.mono (Q := SW L.length (some ⟨b, off, none⟩) c D K h.nb h1.nb h1.nb g.nb i g1 (goC D K (L.take i) ⟨[], [], [], []⟩).2 e) ?_ ?_
      · refine CodeR.block ?_
        clear hci0 hst2 hst1 cst cgood crel cokp
        generalize (goC D K (L.take i) ⟨[], [], [], []⟩).2 = s at hpop0 hbd0 cpl hd hns ⊢
        obtain ⟨N, R, O, P⟩ := s
        obtain ⟨k, tx, tg, an, sty, fl⟩ := e
        dsimp only at hpop0 hbd0 cpl hd hgB rB0 hns ⊢
        rcases kinds_of hce with hkk | hkk | hkk | hkk | hkk | hkk | hkk | hkk <;> dsimp only at hkk <;> subst hkk
        · refine CodeR.seq (CodeR.region ?_)
          simp [OpR, xwant, lightK, lop, evl, flat, flat0, putT, thenR, List.range, List.range.loop, isLen, isMM, callAt, isApp, isFn, evls]
          simp only [nilEq_int]
          rw [lp_eql (k := .i64) (a := 1) (b := 1) rfl rfl]
          simp [OpR, lop, evl, putT, lightK, xwant]
          refine CodeR.cond (b := true) (by simp [evl]) ?_
          simp only [if_true]
          refine CodeR.seq (CodeR.region ?_)
          simp [OpR, xwant, lightK, lop, evl, flat, flat0, putT, thenR, List.range, List.range.loop, isLen, isMM, callAt, isApp, isFn, evls]
          refine CodeR.exit ?_
          refine ⟨fun k => List.getD _ k undef, sl10_of _ rfl, rfl, rfl, rfl, rfl, rfl, rfl, rfl, rfl, rfl, ?_, ?_, ?_⟩
          · exact ⟨_, _, _, _, _, _, _, hd.unnamed.free⟩
          · exact Kp.refl _ _ _
          · rfl
        · refine CodeR.seq (CodeR.region ?_)
          simp [OpR, xwant, lightK, lop, evl, flat, flat0, putT, thenR, List.range, List.range.loop, isLen, isMM, callAt, isApp, isFn, evls]
          simp only [nilEq_int]
          rw [lp_eql (k := .i64) (a := 2) (b := 1) rfl rfl]
          simp [OpR, lop, evl, putT, lightK, xwant]
          refine CodeR.cond (b := false) (by simp [evl]) ?_
          simp only [Bool.false_eq_true, if_false]
          refine CodeR.seq (CodeR.region ?_)
          simp [OpR, xwant, lightK, lop, evl, flat, flat0, putT, thenR, List.range, List.range.loop, isLen, isMM, callAt, isApp, isFn, evls]
          simp only [nilEq_int]
          rw [lp_eql (k := .i64) (a := 2) (b := 2) rfl rfl]
          simp [OpR, lop, evl, putT, lightK, xwant]
          refine CodeR.cond (b := true) (by simp [evl]) ?_
          simp only [if_true]
          refine CodeR.exit ?_
          refine ⟨fun k => List.getD _ k undef, sl10_of _ rfl, rfl, rfl, rfl, rfl, rfl, rfl, rfl, rfl, rfl, ?_, ?_, ?_⟩
          · exact ⟨_, _, _, _, _, _, _, hd.free⟩
          · exact Kp.refl _ _ _
          · rfl
        · refine CodeR.seq (CodeR.region ?_)
          simp [OpR, xwant, lightK, lop, evl, flat, flat0, putT, thenR, List.range, List.range.loop, isLen, isMM, callAt, isApp, isFn, evls]
          simp only [nilEq_int]
          rw [lp_eql (k := .i64) (a := 4) (b := 1) rfl rfl]
          simp [OpR, lop, evl, putT, lightK, xwant]
          refine CodeR.cond (b := false) (by simp [evl]) ?_
          simp only [Bool.false_eq_true, if_false]
          refine CodeR.seq (CodeR.region ?_)
          simp [OpR, xwant, lightK, lop, evl, flat, flat0, putT, thenR, List.range, List.range.loop, isLen, isMM, callAt, isApp, isFn, evls]
          simp only [nilEq_int]
          rw [lp_eql (k := .i64) (a := 4) (b := 2) rfl rfl]
          simp [OpR, lop, evl, putT, lightK, xwant]
          refine CodeR.cond (b := false) (by simp [evl]) ?_
          simp only [Bool.false_eq_true, if_false]
          refine CodeR.seq (CodeR.seq (CodeR.region ?_))
          simp [OpR, xwant, lightK, lop, evl, flat, flat0, putT, thenR, List.range, List.range.loop, isLen, isMM, callAt, isApp, isFn, evls]
          simp only [nilEq_int]
          rw [lp_eql (k := .i64) (a := 4) (b := 4) rfl rfl]
          simp [OpR, lop, evl, putT, lightK, xwant]
          refine CodeR.cond (b := true) (by simp [evl]) ?_
          simp only [if_true]
          refine CodeR.skip ?_
          simp only [thenR]
          refine CodeR.cond (b := true) (by simp [evl]) ?_
          simp only [if_true]
          obtain ⟨bo, co, rfl, hslc, hd2⟩ := hd.shut (hpop0 (by simp))
          have hO1 : O.length ≠ 0 := fun e => hpop0 (by simp) (List.eq_nil_of_length_eq_zero e)
          have hbo := hbd0.o
          have hwr1 : IntKind.i64.wrap ((O.length : Int) - 1) = ((O.length - 1 : Nat) : Int) := by rw [IntWalk.i64_in _ (by omega)]; omega
          refine CodeR.seq (CodeR.region ?_)
          simp [OpR, xwant, lightK, lop, evl, flat, flat0, putT, thenR, List.range, List.range.loop, isLen, isMM, callAt, isApp, isFn, evls, Tryz.underlying26, nilEq_int]
          rw [lp_sub (k := .i64) (a := O.length) (b := 1) rfl rfl, hwr1]
          simp [OpR, lop, lightK, xwant, Tryz.underlying26, hi3, hs3, bnd, evl, hslc, putT]
          refine CodeR.exit ?_
          refine ⟨fun k => List.getD _ k undef, sl10_of _ rfl, rfl, rfl, rfl, rfl, rfl, rfl, rfl, rfl, rfl, ?_, ?_, ?_⟩
          · exact ⟨_, _, _, _, _, _, _, hd2.free⟩
          · exact Kp.refl _ _ _
          · rfl
        · refine CodeR.seq (CodeR.region ?_)
          simp [OpR, xwant, lightK, lop, evl, flat, flat0, putT, thenR, List.range, List.range.loop, isLen, isMM, callAt, isApp, isFn, evls]
          simp only [nilEq_int]
          rw [lp_eql (k := .i64) (a := 6) (b := 1) rfl rfl]
          simp [OpR, lop, evl, putT, lightK, xwant]
          refine CodeR.cond (b := false) (by simp [evl]) ?_
          simp only [Bool.false_eq_true, if_false]
          refine CodeR.seq (CodeR.region ?_)
          simp [OpR, xwant, lightK, lop, evl, flat, flat0, putT, thenR, List.range, List.range.loop, isLen, isMM, callAt, isApp, isFn, evls]
          simp only [nilEq_int]
          rw [lp_eql (k := .i64) (a := 6) (b := 2) rfl rfl]
          simp [OpR, lop, evl, putT, lightK, xwant]
          refine CodeR.cond (b := false) (by simp [evl]) ?_
          simp only [Bool.false_eq_true, if_false]
          refine CodeR.seq (CodeR.seq (CodeR.region ?_))
          simp [OpR, xwant, lightK, lop, evl, flat, flat0, putT, thenR, List.range, List.range.loop, isLen, isMM, callAt, isApp, isFn, evls]
          simp only [nilEq_int]
          rw [lp_eql (k := .i64) (a := 6) (b := 4) rfl rfl]
          simp [OpR, lop, evl, putT, lightK, xwant]
          refine CodeR.cond (b := false) (by simp [evl]) ?_
          simp only [Bool.false_eq_true, if_false]
          refine CodeR.region ?_
          simp [OpR, xwant, lightK, lop, evl, flat, flat0, putT, thenR, List.range, List.range.loop, isLen, isMM, callAt, isApp, isFn, evls]
          simp only [nilEq_int]
          rw [lp_eql (k := .i64) (a := 6) (b := 6) rfl rfl]
          simp [OpR, lop, evl, putT, lightK, xwant]
          refine CodeR.cond (b := true) (by simp [evl]) ?_
          simp only [if_true]
          obtain ⟨bo, co, rfl, hslc, hd2⟩ := hd.shut (hpop0 (by simp))
          have hO1 : O.length ≠ 0 := fun e => hpop0 (by simp) (List.eq_nil_of_length_eq_zero e)
          have hbo := hbd0.o
          have hwr1 : IntKind.i64.wrap ((O.length : Int) - 1) = ((O.length - 1 : Nat) : Int) := by rw [IntWalk.i64_in _ (by omega)]; omega
          refine CodeR.seq (CodeR.region ?_)
          simp [OpR, xwant, lightK, lop, evl, flat, flat0, putT, thenR, List.range, List.range.loop, isLen, isMM, callAt, isApp, isFn, evls, Tryz.underlying26, nilEq_int]
          rw [lp_sub (k := .i64) (a := O.length) (b := 1) rfl rfl, hwr1]
          simp [OpR, lop, lightK, xwant, Tryz.underlying26, hi3, hs3, bnd, evl, hslc, putT]
          refine CodeR.exit ?_
          refine ⟨fun k => List.getD _ k undef, sl10_of _ rfl, rfl, rfl, rfl, rfl, rfl, rfl, rfl, rfl, rfl, ?_, ?_, ?_⟩
          · exact ⟨_, _, _, _, _, _, _, hd2.free⟩
          · exact Kp.refl _ _ _
          · rfl
        · refine CodeR.seq (CodeR.region ?_)
          simp [OpR, xwant, lightK, lop, evl, flat, flat0, putT, thenR, List.range, List.range.loop, isLen, isMM, callAt, isApp, isFn, evls]
          simp only [nilEq_int]
          rw [lp_eql (k := .i64) (a := 8) (b := 1) rfl rfl]
          simp [OpR, lop, evl, putT, lightK, xwant]
          refine CodeR.cond (b := false) (by simp [evl]) ?_
          simp only [Bool.false_eq_true, if_false]
          refine CodeR.seq (CodeR.region ?_)
          simp [OpR, xwant, lightK, lop, evl, flat, flat0, putT, thenR, List.range, List.range.loop, isLen, isMM, callAt, isApp, isFn, evls]
          simp only [nilEq_int]
          rw [lp_eql (k := .i64) (a := 8) (b := 2) rfl rfl]
          simp [OpR, lop, evl, putT, lightK, xwant]
          refine CodeR.cond (b := false) (by simp [evl]) ?_
          simp only [Bool.false_eq_true, if_false]
          refine CodeR.seq (CodeR.seq (CodeR.region ?_))
          simp [OpR, xwant, lightK, lop, evl, flat, flat0, putT, thenR, List.range, List.range.loop, isLen, isMM, callAt, isApp, isFn, evls]
          simp only [nilEq_int]
          rw [lp_eql (k := .i64) (a := 8) (b := 4) rfl rfl]
          simp [OpR, lop, evl, putT, lightK, xwant]
          refine CodeR.cond (b := false) (by simp [evl]) ?_
          simp only [Bool.false_eq_true, if_false]
          refine CodeR.region ?_
          simp [OpR, xwant, lightK, lop, evl, flat, flat0, putT, thenR, List.range, List.range.loop, isLen, isMM, callAt, isApp, isFn, evls]
          simp only [nilEq_int]
          rw [lp_eql (k := .i64) (a := 8) (b := 6) rfl rfl]
          simp [OpR, lop, evl, putT, lightK, xwant]
          refine CodeR.cond (b := false) (by simp [evl]) ?_
          simp only [Bool.false_eq_true, if_false]
          refine CodeR.seq (CodeR.region ?_)
          simp [OpR, xwant, lightK, lop, evl, flat, flat0, putT, thenR, List.range, List.range.loop, isLen, isMM, callAt, isApp, isFn, evls]
          simp only [nilEq_int]
          rw [lp_eql (k := .i64) (a := 8) (b := 8) rfl rfl]
          simp [OpR, lop, evl, putT, lightK, xwant]
          refine CodeR.cond (b := true) (by simp [evl]) ?_
          simp only [if_true]
          have hpl : P.length ≤ 1954687338268 := by omega
          obtain ⟨i9, hi9, hs9⟩ := size9
          obtain ⟨i64, hi64, hs64, hz64, hb64⟩ := pair64
          have rB3 := read1 hgB (o := 3) (v := .string an) rfl
          have hnames := hd.names
          obtain ⟨pm, cm, hnm⟩ := lst_slice hd.names
          subst hnm
          refine CodeR.seq (CodeR.region ?_)
          simp [OpR, xwant, lightK, lop, evl, flat, flat0, putT, thenR, List.range, List.range.loop]
          refine CodeR.seq (CodeR.seq (CodeR.region ?_))
          simp [OpR, xwant, lightK, lop, evl, flat, flat0, putT, thenR, List.range, List.range.loop]
          refine CodeR.block ?_
          refine CodeR.loop (fun j t g' => ∃ (jj : Nat), jj ≤ P.length ∧ j = P.length - jj ∧ LI L.length (some ⟨b, off, none⟩) c D K h.nb h1.nb g.nb i os pm cm P an jj g1 t g') (n := P.length) ⟨0, Nat.zero_le _, rfl, fun k => List.getD _ k undef, sl10_of _ rfl, rfl, rfl, rfl, rfl, rfl, rfl, rfl, rfl, rfl, rfl, rfl, rfl, rfl⟩ ?_
          rintro j t g' ⟨jj, hjj, rfl, f, rfl, a0, a1, a2, a6, a7, a8, a9, a10, a11, a12, a13, a14, rfl⟩
          unfold sl10
          rw [a0, a1, a2, a6, a7, a8, a9, a10, a11, a12, a13, a14]
          refine CodeR.seq (CodeR.seq (CodeR.region ?_))
          simp [OpR, xwant, lightK, lop, evl, flat, flat0, putT, thenR, List.range, List.range.loop, isLen, Tryz.underlying62]
          simp only [nilEq_int]
          rw [lp_lss (k := .i64) (a := (jj : Nat)) (b := (P.length : Nat)) rfl rfl]
          simp [OpR]
          by_cases hjl : jj < P.length
          · refine CodeR.cond (b := true) (by simp [evl, hjl]) ?_
            simp only [if_true]
            refine CodeR.skip ?_
            simp only [thenR]
            obtain ⟨q, hq⟩ : ∃ q, P[jj]? = some q := ⟨_, List.getElem?_eq_getElem hjl⟩
            obtain ⟨n1, n2⟩ := hnames
            rcases n2 with ⟨-, n2, -⟩ | ⟨bp, cp, rr, n3, n4, hgp, hrr, hnc, hcl⟩
            · omega
            cases n3
            have hpt : pfind (P.take (jj + 1)) an = if q.1.toList == an.toList then some q.2 else pfind (P.take jj) an := by
              rw [List.take_add_one, hq]
              unfold pfind
              rw [Option.toList_some, List.foldl_append]
              rfl
            have c0 := pairs_at P jj q hq 0 _ rfl
            have c1 := pairs_at P jj q hq 1 _ rfl
            have hplen := pairs_len P
            rw [← hrr, List.getElem?_take_of_lt (by omega)] at c0 c1
            have rP0 := read1 hgp c0
            have rP1 := read1 hgp c1
            simp only [Nat.add_zero] at rP0
            refine CodeR.seq (CodeR.block (CodeR.seq (CodeR.drawn fx_any (List.range 8) [] [(bp, jj * 2), (g.nb, 3)] (by kernel_rfl) (ag_two rP0 (by simp [sameC]) rB3 (by simp [sameC])) ?_)))
            simp [OpR, xwant, lightK, lop, evl, flat, flat0, putT, thenR, List.range, List.range.loop, Tryz.underlying62, Tryz.underlying64, Tryz.underlying46, Tryz.underlying9, hi46, hs46, hi9, hs9, hi64, hs64, aggD, hjl, rP0, rB3, isLen, isMM, callAt, isApp, isFn, evls]
            simp only [nilEq_str]
            rw [lp_eqls (a := q.1) (b := an) rfl rfl]
            simp [OpR]
            cases hqa : q.1.toList == an.toList
            · refine CodeR.cond (b := false) (by simp [evl, hqa]) ?_
              simp only [Bool.false_eq_true, if_false]
              refine CodeR.skip ?_
              simp only [thenR, blockR]
              refine CodeR.region ?_
              simp [OpR, xwant, lightK, lop, evl, flat, flat0, putT, thenR, List.range, List.range.loop]
              rw [lp_add (k := .i64) (a := (jj : Nat)) (b := 1) rfl rfl]
              simp only [nilEq_int]
              have hwr : IntKind.i64.wrap ((jj : Int) + 1) = ((jj + 1 : Nat) : Int) := by rw [IntWalk.i64_in _ (by omega)]; omega
              rw [hwr]
              refine ⟨P.length - (jj + 1), by omega, jj + 1, by omega, rfl, fun k => List.getD _ k undef, sl10_of _ rfl, rfl, rfl, rfl, rfl, rfl, rfl, rfl, rfl, rfl, rfl, ?_, rfl, rfl⟩
              rw [hpt, hqa]
              rfl
            · refine CodeR.cond (b := true) (by simp [evl, hqa]) ?_
              simp only [if_true]
              refine CodeR.region ?_
              simp [OpR, xwant, lightK, lop, evl, flat, flat0, putT, thenR, blockR, List.range, List.range.loop, Tryz.underlying62, Tryz.underlying64, Tryz.underlying46, Tryz.underlying3, hi46, hs46, hi3, hs3, hi64, hs64, aggD, hjl, rP1, isLen, isMM, callAt, isApp, isFn, evls]
              refine CodeR.region ?_
              simp [OpR, xwant, lightK, lop, evl, flat, flat0, putT, thenR, List.range, List.range.loop]
              rw [lp_add (k := .i64) (a := (jj : Nat)) (b := 1) rfl rfl]
              simp only [nilEq_int]
              have hwr : IntKind.i64.wrap ((jj : Int) + 1) = ((jj + 1 : Nat) : Int) := by rw [IntWalk.i64_in _ (by omega)]; omega
              rw [hwr]
              refine ⟨P.length - (jj + 1), by omega, jj + 1, by omega, rfl, fun k => List.getD _ k undef, sl10_of _ rfl, rfl, rfl, rfl, rfl, rfl, rfl, rfl, rfl, rfl, rfl, ?_, rfl, rfl⟩
              rw [hpt, hqa]
              rfl
          · refine CodeR.cond (b := false) (by simp [evl, hjl]) ?_
            simp only [Bool.false_eq_true, if_false]
            refine CodeR.exit ?_
            have hjP : jj = P.length := by omega
            subst hjP
            rw [List.take_length]
            simp only [thenR, blockR, if_true]
            cases hpf : pfind P an with
            | none =>
              have hst : stepC D K ⟨N, R, O, P⟩ ⟨8, tx, tg, an, sty, fl⟩ = (10, ⟨N, R, O, P⟩) := by simp [stepC, hpf]
              refine CodeR.seq (CodeR.region ?_)
              simp [OpR, xwant, lightK, lop, evl, flat, flat0, putT, thenR, List.range, List.range.loop, isLen, isMM, callAt, isApp, isFn, evls]
              simp only [nilEq_int]
              rw [lp_lss (k := .i64) (a := -1) (b := 0) rfl rfl]
              simp [OpR]
              refine CodeR.cond (b := true) (by simp [evl]) ?_
              simp only [if_true]
              refine CodeR.seq (CodeR.region ?_)
              simp [OpR, xwant, lightK, lop, evl, flat, flat0, putT, thenR, List.range, List.range.loop, callAt, isApp, evps, zero28, bld28]
              rw [if_pos (show isCell (.slice none 0 0) = true from rfl)]
              dsimp only
              rw [hop_store (b := h.nb) (off := 0) (v := .agg #[.slice none 0 0, .slice none 0 0]) (cs := [.slice none 0 0, .slice none 0 0]) hi28 rfl rfl rfl (by rw [hs28]; rfl) rfl hwrr]
              dsimp only
              refine CodeR.ret ?_
              refine ⟨fun k => List.getD _ k undef, sl10_of _ rfl, rfl, rfl, rfl, rfl, rfl, rfl, rfl, 10, by decide, ?_, rfl, get_put_same hgr1 _, ?_, fun k hk => ?_⟩
              · rw [hst]
              · exact Nat.le_refl _
              · rw [get_put_ne hgr1 _ (by omega)]
            | some q =>
              have hst : stepC D K ⟨N, R, O, P⟩ ⟨8, tx, tg, an, sty, fl⟩ = (0, ⟨(putN N R O q).1, (putN N R O q).2, O, P⟩) := by simp [stepC, hpf]
              refine CodeR.seq (CodeR.region ?_)
              simp [OpR, xwant, lightK, lop, evl, flat, flat0, putT, thenR, List.range, List.range.loop, isLen, isMM, callAt, isApp, isFn, evls]
              simp only [nilEq_int]
              rw [lp_lss (k := .i64) (a := (q : Nat)) (b := 0) rfl rfl]
              simp [OpR]
              refine CodeR.cond (b := false) (by simp [evl]) ?_
              simp only [Bool.false_eq_true, if_false]
              refine CodeR.skip ?_
              refine ⟨fun k => List.getD _ k undef, sl10_of _ rfl, rfl, rfl, rfl, rfl, rfl, rfl, rfl, rfl, q, ⟨N, R, O, P⟩, rfl, ⟨_, _, _, _, _, _, _, hd⟩, Kp.refl _ _ _, hbd0.more (by omega), ?_⟩
              rw [hst]
              simp
        · refine CodeR.seq (CodeR.region ?_)
          simp [OpR, xwant, lightK, lop, evl, flat, flat0, putT, thenR, List.range, List.range.loop, isLen, isMM, callAt, isApp, isFn, evls]
          simp only [nilEq_int]
          rw [lp_eql (k := .i64) (a := 3) (b := 1) rfl rfl]
          simp [OpR, lop, evl, putT, lightK, xwant]
          refine CodeR.cond (b := false) (by simp [evl]) ?_
          simp only [Bool.false_eq_true, if_false]
          refine CodeR.seq (CodeR.region ?_)
          simp [OpR, xwant, lightK, lop, evl, flat, flat0, putT, thenR, List.range, List.range.loop, isLen, isMM, callAt, isApp, isFn, evls]
          simp only [nilEq_int]
          rw [lp_eql (k := .i64) (a := 3) (b := 2) rfl rfl]
          simp [OpR, lop, evl, putT, lightK, xwant]
          refine CodeR.cond (b := false) (by simp [evl]) ?_
          simp only [Bool.false_eq_true, if_false]
          refine CodeR.seq (CodeR.seq (CodeR.region ?_))
          simp [OpR, xwant, lightK, lop, evl, flat, flat0, putT, thenR, List.range, List.range.loop, isLen, isMM, callAt, isApp, isFn, evls]
          simp only [nilEq_int]
          rw [lp_eql (k := .i64) (a := 3) (b := 4) rfl rfl]
          simp [OpR, lop, evl, putT, lightK, xwant]
          refine CodeR.cond (b := false) (by simp [evl]) ?_
          simp only [Bool.false_eq_true, if_false]
          refine CodeR.region ?_
          simp [OpR, xwant, lightK, lop, evl, flat, flat0, putT, thenR, List.range, List.range.loop, isLen, isMM, callAt, isApp, isFn, evls]
          simp only [nilEq_int]
          rw [lp_eql (k := .i64) (a := 3) (b := 6) rfl rfl]
          simp [OpR, lop, evl, putT, lightK, xwant]
          refine CodeR.cond (b := false) (by simp [evl]) ?_
          simp only [Bool.false_eq_true, if_false]
          refine CodeR.seq (CodeR.region ?_)
          simp [OpR, xwant, lightK, lop, evl, flat, flat0, putT, thenR, List.range, List.range.loop, isLen, isMM, callAt, isApp, isFn, evls]
          simp only [nilEq_int]
          rw [lp_eql (k := .i64) (a := 3) (b := 8) rfl rfl]
          simp [OpR, lop, evl, putT, lightK, xwant]
          refine CodeR.cond (b := false) (by simp [evl]) ?_
          simp only [Bool.false_eq_true, if_false]
          obtain ⟨i9, hi9, hs9⟩ := size9
          obtain ⟨i51, hi51, hs51, hz51, hb51⟩ := node51
          have rB1 := read1 hgB (o := 1) (v := .string tx) rfl
          have rB2 := read1 hgB (o := 2) (v := .string tg) rfl
          have rB4 := read1 hgB (o := 4) (v := .int .i64 sty) rfl
          obtain ⟨po1, co1, hos⟩ := lst_slice hd.opn
          subst hos
          have hbo := hbd0.o
          have hbn := hbd0.n
          obtain ⟨bb, hbb⟩ : ∃ bb, (sty == 1) = bb := ⟨_, rfl⟩
          obtain ⟨nd, hnd⟩ : ∃ nd : Nd, nd = ⟨2, tg, tx, [], bb⟩ := ⟨_, rfl⟩
          have hnk : nd.kids = [] := by rw [hnd]
          have hndC : ndC ⟨3, tx, tg, an, sty, fl⟩ = nd := by rw [hnd, ← hbb]; rfl
          refine CodeR.seq (CodeR.seq (CodeR.region ?_))
          simp [OpR, xwant, bOf, lightK, lop, evl, flat, flat0, putT, thenR, List.range, List.range.loop, isLen, isMM, callAt, isApp, isFn, evls, Tryz.underlying46, Tryz.underlying3, Tryz.underlying9, Tryz.underlying26, Tryz.underlying51, hi46, hs46, hi3, hs3, hi9, hs9, hi51, hs51, aggD, rB0]
          simp only [nilEq_int]
          rw [lp_neq (k := .i64) (a := 3) (b := 7) rfl rfl]
          simp [OpR, xwant, bOf, lightK, lop, evl, flat, flat0, putT, thenR, List.range, List.range.loop, isLen, isMM, callAt, isApp, isFn, evls, Tryz.underlying46, Tryz.underlying3, Tryz.underlying9, Tryz.underlying26, Tryz.underlying51, hi46, hs46, hi3, hs3, hi9, hs9, hi51, hs51, aggD]
          try simp only [nilEq_int]
          rw [lp_geq (k := .i64) (a := (O.length : Nat)) (b := D) rfl rfl]
          simp [OpR, xwant, bOf, lightK, lop, evl, flat, flat0, putT, thenR, List.range, List.range.loop, isLen, isMM, callAt, isApp, isFn, evls, Tryz.underlying46, Tryz.underlying3, Tryz.underlying9, Tryz.underlying26, Tryz.underlying51, hi46, hs46, hi3, hs3, hi9, hs9, hi51, hs51, aggD]
          by_cases hDO : D ≤ (O.length : Int)
          · have hst : stepC D K ⟨N, R, O, P⟩ ⟨3, tx, tg, an, sty, fl⟩ = (8, ⟨N, R, O, P⟩) := by simp [stepC, hDO]
            refine CodeR.cond (b := true) (by simp [evl, hDO]) ?_
            simp only [if_true]
            refine CodeR.seq (CodeR.region ?_)
            simp [OpR, xwant, lightK, lop, evl, flat, flat0, putT, thenR, List.range, List.range.loop, callAt, isApp, evps, zero28, bld28]
            rw [if_pos (show isCell (.slice none 0 0) = true from rfl)]
            dsimp only
            rw [hop_store (b := h.nb) (off := 0) (v := .agg #[.slice none 0 0, .slice none 0 0]) (cs := [.slice none 0 0, .slice none 0 0]) hi28 rfl rfl rfl (by rw [hs28]; rfl) rfl hwrr]
            dsimp only
            refine CodeR.ret ?_
            refine ⟨fun k => List.getD _ k undef, sl10_of _ rfl, rfl, rfl, rfl, rfl, rfl, rfl, rfl, 8, by decide, ?_, rfl, get_put_same hgr1 _, ?_, fun k hk => ?_⟩
            · rw [hst]
            · exact Nat.le_refl _
            · rw [get_put_ne hgr1 _ (by omega)]
          · refine CodeR.cond (b := false) (by simp [evl, hDO]) ?_
            simp only [Bool.false_eq_true, if_false]
            refine CodeR.skip ?_
            simp only [thenR]
            refine CodeR.seq (CodeR.seq (CodeR.region ?_))
            simp [OpR, xwant, bOf, lightK, lop, evl, flat, flat0, putT, thenR, List.range, List.range.loop, isLen, isMM, callAt, isApp, isFn, evls, Tryz.underlying46, Tryz.underlying3, Tryz.underlying9, Tryz.underlying26, Tryz.underlying51, hi46, hs46, hi3, hs3, hi9, hs9, hi51, hs51, aggD]
            simp only [nilEq_int]
            rw [lp_geq (k := .i64) (a := (N.length : Nat)) (b := K) rfl rfl]
            simp [OpR]
            by_cases hKN : K ≤ (N.length : Int)
            · have hst : stepC D K ⟨N, R, O, P⟩ ⟨3, tx, tg, an, sty, fl⟩ = (9, ⟨N, R, O, P⟩) := by simp [stepC, hDO, hKN]
              refine CodeR.cond (b := true) (by simp [evl, hKN]) ?_
              simp only [if_true]
              refine CodeR.seq (CodeR.region ?_)
              simp [OpR, xwant, lightK, lop, evl, flat, flat0, putT, thenR, List.range, List.range.loop, callAt, isApp, evps, zero28, bld28]
              rw [if_pos (show isCell (.slice none 0 0) = true from rfl)]
              dsimp only
              rw [hop_store (b := h.nb) (off := 0) (v := .agg #[.slice none 0 0, .slice none 0 0]) (cs := [.slice none 0 0, .slice none 0 0]) hi28 rfl rfl rfl (by rw [hs28]; rfl) rfl hwrr]
              dsimp only
              refine CodeR.ret ?_
              refine ⟨fun k => List.getD _ k undef, sl10_of _ rfl, rfl, rfl, rfl, rfl, rfl, rfl, rfl, 9, by decide, ?_, rfl, get_put_same hgr1 _, ?_, fun k hk => ?_⟩
              · rw [hst]
              · exact Nat.le_refl _
              · rw [get_put_ne hgr1 _ (by omega)]
            · refine CodeR.cond (b := false) (by simp [evl, hKN]) ?_
              simp only [Bool.false_eq_true, if_false]
              refine CodeR.skip ?_
              simp only [thenR]
              have hst : stepC D K ⟨N, R, O, P⟩ ⟨3, tx, tg, an, sty, fl⟩ = (0, ⟨(putN (N ++ [nd]) R O N.length).1, (putN (N ++ [nd]) R O N.length).2, O ++ [N.length], if an.toList == [] then P else P ++ [(an, N.length)]⟩) := by simp [stepC, hDO, hKN, hndC]
              refine CodeR.seq (CodeR.region ?_)
              simp [OpR, xwant, bOf, lightK, lop, evl, flat, flat0, putT, thenR, List.range, List.range.loop, isLen, isMM, callAt, isApp, isFn, evls, Tryz.underlying46, Tryz.underlying3, Tryz.underlying9, Tryz.underlying26, Tryz.underlying51, hi46, hs46, hi3, hs3, hi9, hs9, hi51, hs51, aggD, rB1, rB2, rB4]
              simp only [nilEq_int]
              rw [lp_eql (k := .i64) (a := sty) (b := 1) rfl rfl, hbb]
              simp [OpR, xwant, bOf, lightK, lop, evl, flat, flat0, putT, thenR, List.range, List.range.loop, isLen, isMM, callAt, isApp, isFn, evls, Tryz.underlying46, Tryz.underlying3, Tryz.underlying9, Tryz.underlying26, Tryz.underlying51, hi46, hs46, hi3, hs3, hi9, hs9, hi51, hs51, aggD, evps, co_b, co_i, co_s, zero51, bld7]
              rw [if_pos (all5L ⟨rfl, rfl, rfl, rfl, rfl⟩)]
              dsimp only
              rw [alloc51]
              dsimp only
              have hgX0 : (g1.push ⟨[.int .i64 0, .string ⟨#[]⟩, .string ⟨#[]⟩, .slice none 0 0, .bool false], 1, true⟩).get g1.nb = some ⟨[.int .i64 0, .string ⟨#[]⟩, .string ⟨#[]⟩, .slice none 0 0, .bool false], 1, true⟩ := get_push_new _
              have hwX : (g1.push ⟨[.int .i64 0, .string ⟨#[]⟩, .string ⟨#[]⟩, .slice none 0 0, .bool false], 1, true⟩).write g1.nb 0 [.int .i64 1, .string tg, .string tx, .slice none 0 0, .bool bb] = some ((g1.push ⟨[.int .i64 0, .string ⟨#[]⟩, .string ⟨#[]⟩, .slice none 0 0, .bool false], 1, true⟩).put g1.nb ⟨[.int .i64 1, .string tg, .string tx, .slice none 0 0, .bool bb], 1, true⟩) := by
                unfold HP.write
                rw [hgX0]
                rfl
              rw [hop_store (b := g1.nb) (off := 0) (v := .agg #[.int .i64 1, .string tg, .string tx, .slice none 0 0, .bool bb]) (cs := [.int .i64 1, .string tg, .string tx, .slice none 0 0, .bool bb]) hi51 rfl rfl rfl (by rw [hs51]; rfl) rfl hwX]
              dsimp only
              have hkX : Keep g1.nb g1 ((g1.push ⟨[.int .i64 0, .string ⟨#[]⟩, .string ⟨#[]⟩, .slice none 0 0, .bool false], 1, true⟩).put g1.nb ⟨[.int .i64 1, .string tg, .string tx, .slice none 0 0, .bool bb], 1, true⟩) := ⟨by show g1.nb ≤ g1.nb + 1; omega, fun k hk => by rw [get_put_ne hgX0 _ (by omega), get_push_old _ (by omega)]⟩
              have hgX := get_put_same hgX0 ⟨[.int .i64 1, .string tg, .string tx, .slice none 0 0, .bool bb], 1, true⟩
              have hX : g1.nb < ((g1.push ⟨[.int .i64 0, .string ⟨#[]⟩, .string ⟨#[]⟩, .slice none 0 0, .bool false], 1, true⟩).put g1.nb ⟨[.int .i64 1, .string tg, .string tx, .slice none 0 0, .bool bb], 1, true⟩).nb := by show g1.nb < g1.nb + 1; omega
              generalize (g1.push ⟨[.int .i64 0, .string ⟨#[]⟩, .string ⟨#[]⟩, .slice none 0 0, .bool false], 1, true⟩).put g1.nb ⟨[.int .i64 1, .string tg, .string tx, .slice none 0 0, .bool bb], 1, true⟩ = g2 at hkX hgX hX ⊢
              have hd2 := hd.hold (b := g1.nb) hkX (Nat.le_refl _) hX
              have hgB2 := (hkX.2 g.nb hB).trans hgB
              have rB02 := read1 hgB2 (o := 0) (v := .int .i64 3) rfl
              refine CodeR.seq (CodeR.seq (CodeR.region ?_))
              simp [OpR, xwant, bOf, lightK, lop, evl, flat, flat0, putT, thenR, List.range, List.range.loop, isLen, isMM, callAt, isApp, isFn, evls, Tryz.underlying46, Tryz.underlying3, Tryz.underlying9, Tryz.underlying26, Tryz.underlying51, hi46, hs46, hi3, hs3, hi9, hs9, hi51, hs51, aggD, rB02]
              simp only [nilEq_int]
              rw [lp_eql (k := .i64) (a := 3) (b := 3) rfl rfl]
              simp [OpR]
              refine CodeR.cond (b := true) (by simp [evl]) ?_
              simp only [if_true]
              have hwX2 := write1 hgX (o := 0) (by simp) (.int .i64 2)
              refine CodeR.region ?_
              simp [OpR, xwant, bOf, lightK, lop, evl, flat, flat0, putT, thenR, List.range, List.range.loop, isLen, isMM, callAt, isApp, isFn, evls, Tryz.underlying46, Tryz.underlying3, Tryz.underlying9, Tryz.underlying26, Tryz.underlying51, hi46, hs46, hi3, hs3, hi9, hs9, hi51, hs51, aggD]
              rw [hop_store (b := g1.nb) (off := 0) (v := .int .i64 2) hi3 rfl rfl rfl (by rw [hs3]; rfl) rfl hwX2]
              dsimp only
              have hgX3 := get_put_same hgX ⟨[.int .i64 2, .string tg, .string tx, .slice none 0 0, .bool bb], 1, true⟩
              have heX : Else g2 (g2.put g1.nb ⟨[.int .i64 2, .string tg, .string tx, .slice none 0 0, .bool bb], 1, true⟩) [g1.nb] := ⟨Nat.le_refl _, fun k hk hkl => get_put_ne hgX _ (by simpa using hkl)⟩
              have hkX3 : Keep g1.nb g1 (g2.put g1.nb ⟨[.int .i64 2, .string tg, .string tx, .slice none 0 0, .bool bb], 1, true⟩) := ⟨hkX.1, fun k hk => (get_put_ne hgX _ (by omega)).trans (hkX.2 k hk)⟩
              have hd3 := hd2.touch heX (by simp)
              have hX3 : g1.nb < (g2.put g1.nb ⟨[.int .i64 2, .string tg, .string tx, .slice none 0 0, .bool bb], 1, true⟩).nb := hX
              simp only [List.set_cons_zero]
              generalize g2.put g1.nb ⟨[.int .i64 2, .string tg, .string tx, .slice none 0 0, .bool bb], 1, true⟩ = g3 at hgX3 heX hkX3 hd3 hX3 ⊢
              have hgB3 := (hkX3.2 g.nb hB).trans hgB
              have rB03 := read1 hgB3 (o := 0) (v := .int .i64 3) rfl
              refine CodeR.seq (CodeR.seq (CodeR.region ?_))
              simp [OpR, xwant, bOf, lightK, lop, evl, flat, flat0, putT, thenR, List.range, List.range.loop, isLen, isMM, callAt, isApp, isFn, evls, Tryz.underlying46, Tryz.underlying3, Tryz.underlying9, Tryz.underlying26, Tryz.underlying51, hi46, hs46, hi3, hs3, hi9, hs9, hi51, hs51, aggD, rB03]
              simp only [nilEq_int]
              rw [lp_eql (k := .i64) (a := 3) (b := 5) rfl rfl]
              simp [OpR]
              refine CodeR.cond (b := false) (by simp [evl]) ?_
              simp only [Bool.false_eq_true, if_false]
              refine CodeR.skip ?_
              simp only [thenR]
              have rM0' := read1 hd3.box (o := 0) (v := ns) rfl
              have rX : g3.read g1.nb 0 5 = some (ndCells nd) := by
                unfold HP.read
                rw [hgX3, hnd]
                rfl
              subst hns
              obtain ⟨v', h4, on', happ, hcv, hisc, hwr, hd4, hkp4⟩ := hd3.node nd hnk (by omega)
              refine CodeR.seq (CodeR.region ?_)
              simp [OpR, xwant, bOf, lightK, lop, evl, flat, flat0, putT, thenR, List.range, List.range.loop, isLen, isMM, callAt, isApp, isFn, evls, Tryz.underlying46, Tryz.underlying3, Tryz.underlying9, Tryz.underlying26, Tryz.underlying51, hi46, hs46, hi3, hs3, hi9, hs9, hi51, hs51, aggD, Tryz.underlying28, Tryz.underlying25, hi28, hs28, hi25, hs25, rM0', rX]
              rw [build5 (nd := nd) rfl]
              dsimp only
              rw [hop_app (vx := .slice pn N.length cn) (vy := .slice (some ⟨g3.nb, 0, none⟩) 1 1) Tryz.underlying25 Tryz.underlying25 rfl rfl, happ]
              dsimp only
              rw [hop_store (b := h1.nb) (off := 0) (v := v') hi25 rfl rfl hcv (by rw [hs25]; rfl) (by simp [hisc]) hwr]
              dsimp only
              generalize h4.put h1.nb ⟨[v', rs], 1, true⟩ = g4 at hd4 hkp4 ⊢
              have hgB4 := (hkp4.2 g.nb (by omega) (.inr (by simp))).trans ((hkX3.2 g.nb hB).trans hgB)
              have rB34 := read1 hgB4 (o := 3) (v := .string an) rfl
              have he0 : (⟨#[]⟩ : ByteArray).toList = [] := by decide +kernel
              have hK4 : Kp h1.nb [g.nb] g1 g4 := (Kp.of_keep hkX3).trans (hkp4.less (by simp))
              have hb4 := hbd0.node hnk
              refine CodeR.seq (CodeR.region ?_)
              simp [OpR, xwant, bOf, lightK, lop, evl, flat, flat0, putT, thenR, List.range, List.range.loop, isLen, isMM, callAt, isApp, isFn, evls, Tryz.underlying46, Tryz.underlying3, Tryz.underlying9, Tryz.underlying26, Tryz.underlying51, hi46, hs46, hi3, hs3, hi9, hs9, hi51, hs51, aggD, rB34]
              simp only [nilEq_str]
              rw [lp_neqs (a := an) (b := ⟨#[]⟩) rfl rfl]
              simp [OpR]
              cases hE : an.toList == []
              · refine CodeR.cond (b := true) (by simp [evl, he0]; simpa using hE) ?_
                simp only [if_true]
                obtain ⟨v5, g5, po', happ5, hd5, hkp5⟩ := hd4.named an N.length (by omega)
                obtain ⟨i64, hi64, hs64, hz64, hb64⟩ := pair64
                refine CodeR.region ?_
                simp [OpR, xwant, bOf, lightK, lop, evl, flat, flat0, putT, thenR, List.range, List.range.loop, isLen, isMM, callAt, isApp, isFn, evls, Tryz.underlying46, Tryz.underlying3, Tryz.underlying9, Tryz.underlying26, Tryz.underlying51, hi46, hs46, hi3, hs3, hi9, hs9, hi51, hs51, aggD, rB34, evps, co_i, co_s, zero64, bld64]
                rw [if_pos (show isCell (.string an) = true ∧ isCell (.int .i64 N.length) = true from ⟨rfl, rfl⟩)]
                dsimp only
                rw [build62 (s := an) (n := N.length) rfl]
                dsimp only
                rw [hop_app (vx := nm) (vy := .slice (some ⟨g4.nb, 0, none⟩) 1 1) Tryz.underlying62 Tryz.underlying62 rfl rfl, happ5]
                dsimp only
                refine ⟨fun k => List.getD _ k undef, sl10_of _ rfl, rfl, rfl, rfl, rfl, rfl, rfl, rfl, rfl, N.length, ⟨N ++ [nd], R, O, P ++ [(an, N.length)]⟩, rfl, ⟨_, _, _, _, _, _, _, hd5.free⟩, hK4.trans (hkp5.less (by simp)), hb4, ?_⟩
                rw [hst, hE]
                simp
              · refine CodeR.cond (b := false) (by simp [evl, he0]; simpa using hE) ?_
                simp only [Bool.false_eq_true, if_false]
                refine CodeR.skip ?_
                refine ⟨fun k => List.getD _ k undef, sl10_of _ rfl, rfl, rfl, rfl, rfl, rfl, rfl, rfl, rfl, N.length, ⟨N ++ [nd], R, O, P⟩, rfl, ⟨_, _, _, _, _, _, _, hd4.free⟩, hK4, hb4, ?_⟩
                rw [hst, hE]
                simp
        · refine CodeR.seq (CodeR.region ?_)
          simp [OpR, xwant, lightK, lop, evl, flat, flat0, putT, thenR, List.range, List.range.loop, isLen, isMM, callAt, isApp, isFn, evls]
          simp only [nilEq_int]
          rw [lp_eql (k := .i64) (a := 5) (b := 1) rfl rfl]
          simp [OpR, lop, evl, putT, lightK, xwant]
          refine CodeR.cond (b := false) (by simp [evl]) ?_
          simp only [Bool.false_eq_true, if_false]
          refine CodeR.seq (CodeR.region ?_)
          simp [OpR, xwant, lightK, lop, evl, flat, flat0, putT, thenR, List.range, List.range.loop, isLen, isMM, callAt, isApp, isFn, evls]
          simp only [nilEq_int]
          rw [lp_eql (k := .i64) (a := 5) (b := 2) rfl rfl]
          simp [OpR, lop, evl, putT, lightK, xwant]
          refine CodeR.cond (b := false) (by simp [evl]) ?_
          simp only [Bool.false_eq_true, if_false]
          refine CodeR.seq (CodeR.seq (CodeR.region ?_))
          simp [OpR, xwant, lightK, lop, evl, flat, flat0, putT, thenR, List.range, List.range.loop, isLen, isMM, callAt, isApp, isFn, evls]
          simp only [nilEq_int]
          rw [lp_eql (k := .i64) (a := 5) (b := 4) rfl rfl]
          simp [OpR, lop, evl, putT, lightK, xwant]
          refine CodeR.cond (b := false) (by simp [evl]) ?_
          simp only [Bool.false_eq_true, if_false]
          refine CodeR.region ?_
          simp [OpR, xwant, lightK, lop, evl, flat, flat0, putT, thenR, List.range, List.range.loop, isLen, isMM, callAt, isApp, isFn, evls]
          simp only [nilEq_int]
          rw [lp_eql (k := .i64) (a := 5) (b := 6) rfl rfl]
          simp [OpR, lop, evl, putT, lightK, xwant]
          refine CodeR.cond (b := false) (by simp [evl]) ?_
          simp only [Bool.false_eq_true, if_false]
          refine CodeR.seq (CodeR.region ?_)
          simp [OpR, xwant, lightK, lop, evl, flat, flat0, putT, thenR, List.range, List.range.loop, isLen, isMM, callAt, isApp, isFn, evls]
          simp only [nilEq_int]
          rw [lp_eql (k := .i64) (a := 5) (b := 8) rfl rfl]
          simp [OpR, lop, evl, putT, lightK, xwant]
          refine CodeR.cond (b := false) (by simp [evl]) ?_
          simp only [Bool.false_eq_true, if_false]
          obtain ⟨i9, hi9, hs9⟩ := size9
          obtain ⟨i51, hi51, hs51, hz51, hb51⟩ := node51
          have rB1 := read1 hgB (o := 1) (v := .string tx) rfl
          have rB2 := read1 hgB (o := 2) (v := .string tg) rfl
          have rB4 := read1 hgB (o := 4) (v := .int .i64 sty) rfl
          obtain ⟨po1, co1, hos⟩ := lst_slice hd.opn
          subst hos
          have hbo := hbd0.o
          have hbn := hbd0.n
          obtain ⟨bb, hbb⟩ : ∃ bb, (sty == 1) = bb := ⟨_, rfl⟩
          obtain ⟨nd, hnd⟩ : ∃ nd : Nd, nd = ⟨3, tg, tx, [], bb⟩ := ⟨_, rfl⟩
          have hnk : nd.kids = [] := by rw [hnd]
          have hndC : ndC ⟨5, tx, tg, an, sty, fl⟩ = nd := by rw [hnd, ← hbb]; rfl
          refine CodeR.seq (CodeR.seq (CodeR.region ?_))
          simp [OpR, xwant, bOf, lightK, lop, evl, flat, flat0, putT, thenR, List.range, List.range.loop, isLen, isMM, callAt, isApp, isFn, evls, Tryz.underlying46, Tryz.underlying3, Tryz.underlying9, Tryz.underlying26, Tryz.underlying51, hi46, hs46, hi3, hs3, hi9, hs9, hi51, hs51, aggD, rB0]
          simp only [nilEq_int]
          rw [lp_neq (k := .i64) (a := 5) (b := 7) rfl rfl]
          simp [OpR, xwant, bOf, lightK, lop, evl, flat, flat0, putT, thenR, List.range, List.range.loop, isLen, isMM, callAt, isApp, isFn, evls, Tryz.underlying46, Tryz.underlying3, Tryz.underlying9, Tryz.underlying26, Tryz.underlying51, hi46, hs46, hi3, hs3, hi9, hs9, hi51, hs51, aggD]
          try simp only [nilEq_int]
          rw [lp_geq (k := .i64) (a := (O.length : Nat)) (b := D) rfl rfl]
          simp [OpR, xwant, bOf, lightK, lop, evl, flat, flat0, putT, thenR, List.range, List.range.loop, isLen, isMM, callAt, isApp, isFn, evls, Tryz.underlying46, Tryz.underlying3, Tryz.underlying9, Tryz.underlying26, Tryz.underlying51, hi46, hs46, hi3, hs3, hi9, hs9, hi51, hs51, aggD]
          by_cases hDO : D ≤ (O.length : Int)
          · have hst : stepC D K ⟨N, R, O, P⟩ ⟨5, tx, tg, an, sty, fl⟩ = (8, ⟨N, R, O, P⟩) := by simp [stepC, hDO]
            refine CodeR.cond (b := true) (by simp [evl, hDO]) ?_
            simp only [if_true]
            refine CodeR.seq (CodeR.region ?_)
            simp [OpR, xwant, lightK, lop, evl, flat, flat0, putT, thenR, List.range, List.range.loop, callAt, isApp, evps, zero28, bld28]
            rw [if_pos (show isCell (.slice none 0 0) = true from rfl)]
            dsimp only
            rw [hop_store (b := h.nb) (off := 0) (v := .agg #[.slice none 0 0, .slice none 0 0]) (cs := [.slice none 0 0, .slice none 0 0]) hi28 rfl rfl rfl (by rw [hs28]; rfl) rfl hwrr]
            dsimp only
            refine CodeR.ret ?_
            refine ⟨fun k => List.getD _ k undef, sl10_of _ rfl, rfl, rfl, rfl, rfl, rfl, rfl, rfl, 8, by decide, ?_, rfl, get_put_same hgr1 _, ?_, fun k hk => ?_⟩
            · rw [hst]
            · exact Nat.le_refl _
            · rw [get_put_ne hgr1 _ (by omega)]
          · refine CodeR.cond (b := false) (by simp [evl, hDO]) ?_
            simp only [Bool.false_eq_true, if_false]
            refine CodeR.skip ?_
            simp only [thenR]
            refine CodeR.seq (CodeR.seq (CodeR.region ?_))
            simp [OpR, xwant, bOf, lightK, lop, evl, flat, flat0, putT, thenR, List.range, List.range.loop, isLen, isMM, callAt, isApp, isFn, evls, Tryz.underlying46, Tryz.underlying3, Tryz.underlying9, Tryz.underlying26, Tryz.underlying51, hi46, hs46, hi3, hs3, hi9, hs9, hi51, hs51, aggD]
            simp only [nilEq_int]
            rw [lp_geq (k := .i64) (a := (N.length : Nat)) (b := K) rfl rfl]
            simp [OpR]
            by_cases hKN : K ≤ (N.length : Int)
            · have hst : stepC D K ⟨N, R, O, P⟩ ⟨5, tx, tg, an, sty, fl⟩ = (9, ⟨N, R, O, P⟩) := by simp [stepC, hDO, hKN]
              refine CodeR.cond (b := true) (by simp [evl, hKN]) ?_
              simp only [if_true]
              refine CodeR.seq (CodeR.region ?_)
              simp [OpR, xwant, lightK, lop, evl, flat, flat0, putT, thenR, List.range, List.range.loop, callAt, isApp, evps, zero28, bld28]
              rw [if_pos (show isCell (.slice none 0 0) = true from rfl)]
              dsimp only
              rw [hop_store (b := h.nb) (off := 0) (v := .agg #[.slice none 0 0, .slice none 0 0]) (cs := [.slice none 0 0, .slice none 0 0]) hi28 rfl rfl rfl (by rw [hs28]; rfl) rfl hwrr]
              dsimp only
              refine CodeR.ret ?_
              refine ⟨fun k => List.getD _ k undef, sl10_of _ rfl, rfl, rfl, rfl, rfl, rfl, rfl, rfl, 9, by decide, ?_, rfl, get_put_same hgr1 _, ?_, fun k hk => ?_⟩
              · rw [hst]
              · exact Nat.le_refl _
              · rw [get_put_ne hgr1 _ (by omega)]
            · refine CodeR.cond (b := false) (by simp [evl, hKN]) ?_
              simp only [Bool.false_eq_true, if_false]
              refine CodeR.skip ?_
              simp only [thenR]
              have hst : stepC D K ⟨N, R, O, P⟩ ⟨5, tx, tg, an, sty, fl⟩ = (0, ⟨(putN (N ++ [nd]) R O N.length).1, (putN (N ++ [nd]) R O N.length).2, O ++ [N.length], if an.toList == [] then P else P ++ [(an, N.length)]⟩) := by simp [stepC, hDO, hKN, hndC]
              refine CodeR.seq (CodeR.region ?_)
              simp [OpR, xwant, bOf, lightK, lop, evl, flat, flat0, putT, thenR, List.range, List.range.loop, isLen, isMM, callAt, isApp, isFn, evls, Tryz.underlying46, Tryz.underlying3, Tryz.underlying9, Tryz.underlying26, Tryz.underlying51, hi46, hs46, hi3, hs3, hi9, hs9, hi51, hs51, aggD, rB1, rB2, rB4]
              simp only [nilEq_int]
              rw [lp_eql (k := .i64) (a := sty) (b := 1) rfl rfl, hbb]
              simp [OpR, xwant, bOf, lightK, lop, evl, flat, flat0, putT, thenR, List.range, List.range.loop, isLen, isMM, callAt, isApp, isFn, evls, Tryz.underlying46, Tryz.underlying3, Tryz.underlying9, Tryz.underlying26, Tryz.underlying51, hi46, hs46, hi3, hs3, hi9, hs9, hi51, hs51, aggD, evps, co_b, co_i, co_s, zero51, bld7]
              rw [if_pos (all5L ⟨rfl, rfl, rfl, rfl, rfl⟩)]
              dsimp only
              rw [alloc51]
              dsimp only
              have hgX0 : (g1.push ⟨[.int .i64 0, .string ⟨#[]⟩, .string ⟨#[]⟩, .slice none 0 0, .bool false], 1, true⟩).get g1.nb = some ⟨[.int .i64 0, .string ⟨#[]⟩, .string ⟨#[]⟩, .slice none 0 0, .bool false], 1, true⟩ := get_push_new _
              have hwX : (g1.push ⟨[.int .i64 0, .string ⟨#[]⟩, .string ⟨#[]⟩, .slice none 0 0, .bool false], 1, true⟩).write g1.nb 0 [.int .i64 1, .string tg, .string tx, .slice none 0 0, .bool bb] = some ((g1.push ⟨[.int .i64 0, .string ⟨#[]⟩, .string ⟨#[]⟩, .slice none 0 0, .bool false], 1, true⟩).put g1.nb ⟨[.int .i64 1, .string tg, .string tx, .slice none 0 0, .bool bb], 1, true⟩) := by
                unfold HP.write
                rw [hgX0]
                rfl
              rw [hop_store (b := g1.nb) (off := 0) (v := .agg #[.int .i64 1, .string tg, .string tx, .slice none 0 0, .bool bb]) (cs := [.int .i64 1, .string tg, .string tx, .slice none 0 0, .bool bb]) hi51 rfl rfl rfl (by rw [hs51]; rfl) rfl hwX]
              dsimp only
              have hkX : Keep g1.nb g1 ((g1.push ⟨[.int .i64 0, .string ⟨#[]⟩, .string ⟨#[]⟩, .slice none 0 0, .bool false], 1, true⟩).put g1.nb ⟨[.int .i64 1, .string tg, .string tx, .slice none 0 0, .bool bb], 1, true⟩) := ⟨by show g1.nb ≤ g1.nb + 1; omega, fun k hk => by rw [get_put_ne hgX0 _ (by omega), get_push_old _ (by omega)]⟩
              have hgX := get_put_same hgX0 ⟨[.int .i64 1, .string tg, .string tx, .slice none 0 0, .bool bb], 1, true⟩
              have hX : g1.nb < ((g1.push ⟨[.int .i64 0, .string ⟨#[]⟩, .string ⟨#[]⟩, .slice none 0 0, .bool false], 1, true⟩).put g1.nb ⟨[.int .i64 1, .string tg, .string tx, .slice none 0 0, .bool bb], 1, true⟩).nb := by show g1.nb < g1.nb + 1; omega
              generalize (g1.push ⟨[.int .i64 0, .string ⟨#[]⟩, .string ⟨#[]⟩, .slice none 0 0, .bool false], 1, true⟩).put g1.nb ⟨[.int .i64 1, .string tg, .string tx, .slice none 0 0, .bool bb], 1, true⟩ = g2 at hkX hgX hX ⊢
              have hd2 := hd.hold (b := g1.nb) hkX (Nat.le_refl _) hX
              have hgB2 := (hkX.2 g.nb hB).trans hgB
              have rB02 := read1 hgB2 (o := 0) (v := .int .i64 5) rfl
              refine CodeR.seq (CodeR.seq (CodeR.region ?_))
              simp [OpR, xwant, bOf, lightK, lop, evl, flat, flat0, putT, thenR, List.range, List.range.loop, isLen, isMM, callAt, isApp, isFn, evls, Tryz.underlying46, Tryz.underlying3, Tryz.underlying9, Tryz.underlying26, Tryz.underlying51, hi46, hs46, hi3, hs3, hi9, hs9, hi51, hs51, aggD, rB02]
              simp only [nilEq_int]
              rw [lp_eql (k := .i64) (a := 5) (b := 3) rfl rfl]
              simp [OpR]
              refine CodeR.cond (b := false) (by simp [evl]) ?_
              simp only [Bool.false_eq_true, if_false]
              refine CodeR.skip ?_
              simp only [thenR]
              refine CodeR.seq (CodeR.seq (CodeR.region ?_))
              simp [OpR, xwant, bOf, lightK, lop, evl, flat, flat0, putT, thenR, List.range, List.range.loop, isLen, isMM, callAt, isApp, isFn, evls, Tryz.underlying46, Tryz.underlying3, Tryz.underlying9, Tryz.underlying26, Tryz.underlying51, hi46, hs46, hi3, hs3, hi9, hs9, hi51, hs51, aggD, rB02]
              simp only [nilEq_int]
              rw [lp_eql (k := .i64) (a := 5) (b := 5) rfl rfl]
              simp [OpR]
              refine CodeR.cond (b := true) (by simp [evl]) ?_
              simp only [if_true]
              have hwX2 := write1 hgX (o := 0) (by simp) (.int .i64 3)
              refine CodeR.region ?_
              simp [OpR, xwant, bOf, lightK, lop, evl, flat, flat0, putT, thenR, List.range, List.range.loop, isLen, isMM, callAt, isApp, isFn, evls, Tryz.underlying46, Tryz.underlying3, Tryz.underlying9, Tryz.underlying26, Tryz.underlying51, hi46, hs46, hi3, hs3, hi9, hs9, hi51, hs51, aggD]
              rw [hop_store (b := g1.nb) (off := 0) (v := .int .i64 3) hi3 rfl rfl rfl (by rw [hs3]; rfl) rfl hwX2]
              dsimp only
              have hgX3 := get_put_same hgX ⟨[.int .i64 3, .string tg, .string tx, .slice none 0 0, .bool bb], 1, true⟩
              have heX : Else g2 (g2.put g1.nb ⟨[.int .i64 3, .string tg, .string tx, .slice none 0 0, .bool bb], 1, true⟩) [g1.nb] := ⟨Nat.le_refl _, fun k hk hkl => get_put_ne hgX _ (by simpa using hkl)⟩
              have hkX3 : Keep g1.nb g1 (g2.put g1.nb ⟨[.int .i64 3, .string tg, .string tx, .slice none 0 0, .bool bb], 1, true⟩) := ⟨hkX.1, fun k hk => (get_put_ne hgX _ (by omega)).trans (hkX.2 k hk)⟩
              have hd3 := hd2.touch heX (by simp)
              have hX3 : g1.nb < (g2.put g1.nb ⟨[.int .i64 3, .string tg, .string tx, .slice none 0 0, .bool bb], 1, true⟩).nb := hX
              simp only [List.set_cons_zero]
              generalize g2.put g1.nb ⟨[.int .i64 3, .string tg, .string tx, .slice none 0 0, .bool bb], 1, true⟩ = g3 at hgX3 heX hkX3 hd3 hX3 ⊢
              have hgB3 := (hkX3.2 g.nb hB).trans hgB
              have rB03 := read1 hgB3 (o := 0) (v := .int .i64 5) rfl
              have rM0' := read1 hd3.box (o := 0) (v := ns) rfl
              have rX : g3.read g1.nb 0 5 = some (ndCells nd) := by
                unfold HP.read
                rw [hgX3, hnd]
                rfl
              subst hns
              obtain ⟨v', h4, on', happ, hcv, hisc, hwr, hd4, hkp4⟩ := hd3.node nd hnk (by omega)
              refine CodeR.seq (CodeR.region ?_)
              simp [OpR, xwant, bOf, lightK, lop, evl, flat, flat0, putT, thenR, List.range, List.range.loop, isLen, isMM, callAt, isApp, isFn, evls, Tryz.underlying46, Tryz.underlying3, Tryz.underlying9, Tryz.underlying26, Tryz.underlying51, hi46, hs46, hi3, hs3, hi9, hs9, hi51, hs51, aggD, Tryz.underlying28, Tryz.underlying25, hi28, hs28, hi25, hs25, rM0', rX]
              rw [build5 (nd := nd) rfl]
              dsimp only
              rw [hop_app (vx := .slice pn N.length cn) (vy := .slice (some ⟨g3.nb, 0, none⟩) 1 1) Tryz.underlying25 Tryz.underlying25 rfl rfl, happ]
              dsimp only
              rw [hop_store (b := h1.nb) (off := 0) (v := v') hi25 rfl rfl hcv (by rw [hs25]; rfl) (by simp [hisc]) hwr]
              dsimp only
              generalize h4.put h1.nb ⟨[v', rs], 1, true⟩ = g4 at hd4 hkp4 ⊢
              have hgB4 := (hkp4.2 g.nb (by omega) (.inr (by simp))).trans ((hkX3.2 g.nb hB).trans hgB)
              have rB34 := read1 hgB4 (o := 3) (v := .string an) rfl
              have he0 : (⟨#[]⟩ : ByteArray).toList = [] := by decide +kernel
              have hK4 : Kp h1.nb [g.nb] g1 g4 := (Kp.of_keep hkX3).trans (hkp4.less (by simp))
              have hb4 := hbd0.node hnk
              refine CodeR.seq (CodeR.region ?_)
              simp [OpR, xwant, bOf, lightK, lop, evl, flat, flat0, putT, thenR, List.range, List.range.loop, isLen, isMM, callAt, isApp, isFn, evls, Tryz.underlying46, Tryz.underlying3, Tryz.underlying9, Tryz.underlying26, Tryz.underlying51, hi46, hs46, hi3, hs3, hi9, hs9, hi51, hs51, aggD, rB34]
              simp only [nilEq_str]
              rw [lp_neqs (a := an) (b := ⟨#[]⟩) rfl rfl]
              simp [OpR]
              cases hE : an.toList == []
              · refine CodeR.cond (b := true) (by simp [evl, he0]; simpa using hE) ?_
                simp only [if_true]
                obtain ⟨v5, g5, po', happ5, hd5, hkp5⟩ := hd4.named an N.length (by omega)
                obtain ⟨i64, hi64, hs64, hz64, hb64⟩ := pair64
                refine CodeR.region ?_
                simp [OpR, xwant, bOf, lightK, lop, evl, flat, flat0, putT, thenR, List.range, List.range.loop, isLen, isMM, callAt, isApp, isFn, evls, Tryz.underlying46, Tryz.underlying3, Tryz.underlying9, Tryz.underlying26, Tryz.underlying51, hi46, hs46, hi3, hs3, hi9, hs9, hi51, hs51, aggD, rB34, evps, co_i, co_s, zero64, bld64]
                rw [if_pos (show isCell (.string an) = true ∧ isCell (.int .i64 N.length) = true from ⟨rfl, rfl⟩)]
                dsimp only
                rw [build62 (s := an) (n := N.length) rfl]
                dsimp only
                rw [hop_app (vx := nm) (vy := .slice (some ⟨g4.nb, 0, none⟩) 1 1) Tryz.underlying62 Tryz.underlying62 rfl rfl, happ5]
                dsimp only
                refine ⟨fun k => List.getD _ k undef, sl10_of _ rfl, rfl, rfl, rfl, rfl, rfl, rfl, rfl, rfl, N.length, ⟨N ++ [nd], R, O, P ++ [(an, N.length)]⟩, rfl, ⟨_, _, _, _, _, _, _, hd5.free⟩, hK4.trans (hkp5.less (by simp)), hb4, ?_⟩
                rw [hst, hE]
                simp
              · refine CodeR.cond (b := false) (by simp [evl, he0]; simpa using hE) ?_
                simp only [Bool.false_eq_true, if_false]
                refine CodeR.skip ?_
                refine ⟨fun k => List.getD _ k undef, sl10_of _ rfl, rfl, rfl, rfl, rfl, rfl, rfl, rfl, rfl, N.length, ⟨N ++ [nd], R, O, P⟩, rfl, ⟨_, _, _, _, _, _, _, hd4.free⟩, hK4, hb4, ?_⟩
                rw [hst, hE]
                simp
        · refine CodeR.seq (CodeR.region ?_)
          simp [OpR, xwant, lightK, lop, evl, flat, flat0, putT, thenR, List.range, List.range.loop, isLen, isMM, callAt, isApp, isFn, evls]
          simp only [nilEq_int]
          rw [lp_eql (k := .i64) (a := 7) (b := 1) rfl rfl]
          simp [OpR, lop, evl, putT, lightK, xwant]
          refine CodeR.cond (b := false) (by simp [evl]) ?_
          simp only [Bool.false_eq_true, if_false]
          refine CodeR.seq (CodeR.region ?_)
          simp [OpR, xwant, lightK, lop, evl, flat, flat0, putT, thenR, List.range, List.range.loop, isLen, isMM, callAt, isApp, isFn, evls]
          simp only [nilEq_int]
          rw [lp_eql (k := .i64) (a := 7) (b := 2) rfl rfl]
          simp [OpR, lop, evl, putT, lightK, xwant]
          refine CodeR.cond (b := false) (by simp [evl]) ?_
          simp only [Bool.false_eq_true, if_false]
          refine CodeR.seq (CodeR.seq (CodeR.region ?_))
          simp [OpR, xwant, lightK, lop, evl, flat, flat0, putT, thenR, List.range, List.range.loop, isLen, isMM, callAt, isApp, isFn, evls]
          simp only [nilEq_int]
          rw [lp_eql (k := .i64) (a := 7) (b := 4) rfl rfl]
          simp [OpR, lop, evl, putT, lightK, xwant]
          refine CodeR.cond (b := false) (by simp [evl]) ?_
          simp only [Bool.false_eq_true, if_false]
          refine CodeR.region ?_
          simp [OpR, xwant, lightK, lop, evl, flat, flat0, putT, thenR, List.range, List.range.loop, isLen, isMM, callAt, isApp, isFn, evls]
          simp only [nilEq_int]
          rw [lp_eql (k := .i64) (a := 7) (b := 6) rfl rfl]
          simp [OpR, lop, evl, putT, lightK, xwant]
          refine CodeR.cond (b := false) (by simp [evl]) ?_
          simp only [Bool.false_eq_true, if_false]
          refine CodeR.seq (CodeR.region ?_)
          simp [OpR, xwant, lightK, lop, evl, flat, flat0, putT, thenR, List.range, List.range.loop, isLen, isMM, callAt, isApp, isFn, evls]
          simp only [nilEq_int]
          rw [lp_eql (k := .i64) (a := 7) (b := 8) rfl rfl]
          simp [OpR, lop, evl, putT, lightK, xwant]
          refine CodeR.cond (b := false) (by simp [evl]) ?_
          simp only [Bool.false_eq_true, if_false]
          obtain ⟨i9, hi9, hs9⟩ := size9
          obtain ⟨i51, hi51, hs51, hz51, hb51⟩ := node51
          have rB1 := read1 hgB (o := 1) (v := .string tx) rfl
          have rB2 := read1 hgB (o := 2) (v := .string tg) rfl
          have rB4 := read1 hgB (o := 4) (v := .int .i64 sty) rfl
          obtain ⟨po1, co1, hos⟩ := lst_slice hd.opn
          subst hos
          have hbo := hbd0.o
          have hbn := hbd0.n
          obtain ⟨bb, hbb⟩ : ∃ bb, (sty == 1) = bb := ⟨_, rfl⟩
          obtain ⟨nd, hnd⟩ : ∃ nd : Nd, nd = ⟨1, tg, tx, [], bb⟩ := ⟨_, rfl⟩
          have hnk : nd.kids = [] := by rw [hnd]
          have hndC : ndC ⟨7, tx, tg, an, sty, fl⟩ = nd := by rw [hnd, ← hbb]; rfl
          refine CodeR.seq (CodeR.seq (CodeR.region ?_))
          simp [OpR, xwant, bOf, lightK, lop, evl, flat, flat0, putT, thenR, List.range, List.range.loop, isLen, isMM, callAt, isApp, isFn, evls, Tryz.underlying46, Tryz.underlying3, Tryz.underlying9, Tryz.underlying26, Tryz.underlying51, hi46, hs46, hi3, hs3, hi9, hs9, hi51, hs51, aggD, rB0]
          simp only [nilEq_int]
          rw [lp_neq (k := .i64) (a := 7) (b := 7) rfl rfl]
          simp [OpR, xwant, bOf, lightK, lop, evl, flat, flat0, putT, thenR, List.range, List.range.loop, isLen, isMM, callAt, isApp, isFn, evls, Tryz.underlying46, Tryz.underlying3, Tryz.underlying9, Tryz.underlying26, Tryz.underlying51, hi46, hs46, hi3, hs3, hi9, hs9, hi51, hs51, aggD]
          refine CodeR.cond (b := false) (by simp [evl]) ?_
          simp only [Bool.false_eq_true, if_false]
          refine CodeR.skip ?_
          simp only [thenR]
          refine CodeR.seq (CodeR.seq (CodeR.region ?_))
          simp [OpR, xwant, bOf, lightK, lop, evl, flat, flat0, putT, thenR, List.range, List.range.loop, isLen, isMM, callAt, isApp, isFn, evls, Tryz.underlying46, Tryz.underlying3, Tryz.underlying9, Tryz.underlying26, Tryz.underlying51, hi46, hs46, hi3, hs3, hi9, hs9, hi51, hs51, aggD]
          simp only [nilEq_int]
          rw [lp_geq (k := .i64) (a := (N.length : Nat)) (b := K) rfl rfl]
          simp [OpR]
          by_cases hKN : K ≤ (N.length : Int)
          · have hst : stepC D K ⟨N, R, O, P⟩ ⟨7, tx, tg, an, sty, fl⟩ = (9, ⟨N, R, O, P⟩) := by simp [stepC, hKN]
            refine CodeR.cond (b := true) (by simp [evl, hKN]) ?_
            simp only [if_true]
            refine CodeR.seq (CodeR.region ?_)
            simp [OpR, xwant, lightK, lop, evl, flat, flat0, putT, thenR, List.range, List.range.loop, callAt, isApp, evps, zero28, bld28]
            rw [if_pos (show isCell (.slice none 0 0) = true from rfl)]
            dsimp only
            rw [hop_store (b := h.nb) (off := 0) (v := .agg #[.slice none 0 0, .slice none 0 0]) (cs := [.slice none 0 0, .slice none 0 0]) hi28 rfl rfl rfl (by rw [hs28]; rfl) rfl hwrr]
            dsimp only
            refine CodeR.ret ?_
            refine ⟨fun k => List.getD _ k undef, sl10_of _ rfl, rfl, rfl, rfl, rfl, rfl, rfl, rfl, 9, by decide, ?_, rfl, get_put_same hgr1 _, ?_, fun k hk => ?_⟩
            · rw [hst]
            · exact Nat.le_refl _
            · rw [get_put_ne hgr1 _ (by omega)]
          · refine CodeR.cond (b := false) (by simp [evl, hKN]) ?_
            simp only [Bool.false_eq_true, if_false]
            refine CodeR.skip ?_
            simp only [thenR]
            have hst : stepC D K ⟨N, R, O, P⟩ ⟨7, tx, tg, an, sty, fl⟩ = (0, ⟨(putN (N ++ [nd]) R O N.length).1, (putN (N ++ [nd]) R O N.length).2, O, if an.toList == [] then P else P ++ [(an, N.length)]⟩) := by simp [stepC, hKN, hndC]
            refine CodeR.seq (CodeR.region ?_)
            simp [OpR, xwant, bOf, lightK, lop, evl, flat, flat0, putT, thenR, List.range, List.range.loop, isLen, isMM, callAt, isApp, isFn, evls, Tryz.underlying46, Tryz.underlying3, Tryz.underlying9, Tryz.underlying26, Tryz.underlying51, hi46, hs46, hi3, hs3, hi9, hs9, hi51, hs51, aggD, rB1, rB2, rB4]
            simp only [nilEq_int]
            rw [lp_eql (k := .i64) (a := sty) (b := 1) rfl rfl, hbb]
            simp [OpR, xwant, bOf, lightK, lop, evl, flat, flat0, putT, thenR, List.range, List.range.loop, isLen, isMM, callAt, isApp, isFn, evls, Tryz.underlying46, Tryz.underlying3, Tryz.underlying9, Tryz.underlying26, Tryz.underlying51, hi46, hs46, hi3, hs3, hi9, hs9, hi51, hs51, aggD, evps, co_b, co_i, co_s, zero51, bld7]
            rw [if_pos (all5L ⟨rfl, rfl, rfl, rfl, rfl⟩)]
            dsimp only
            rw [alloc51]
            dsimp only
            have hgX0 : (g1.push ⟨[.int .i64 0, .string ⟨#[]⟩, .string ⟨#[]⟩, .slice none 0 0, .bool false], 1, true⟩).get g1.nb = some ⟨[.int .i64 0, .string ⟨#[]⟩, .string ⟨#[]⟩, .slice none 0 0, .bool false], 1, true⟩ := get_push_new _
            have hwX : (g1.push ⟨[.int .i64 0, .string ⟨#[]⟩, .string ⟨#[]⟩, .slice none 0 0, .bool false], 1, true⟩).write g1.nb 0 [.int .i64 1, .string tg, .string tx, .slice none 0 0, .bool bb] = some ((g1.push ⟨[.int .i64 0, .string ⟨#[]⟩, .string ⟨#[]⟩, .slice none 0 0, .bool false], 1, true⟩).put g1.nb ⟨[.int .i64 1, .string tg, .string tx, .slice none 0 0, .bool bb], 1, true⟩) := by
              unfold HP.write
              rw [hgX0]
              rfl
            rw [hop_store (b := g1.nb) (off := 0) (v := .agg #[.int .i64 1, .string tg, .string tx, .slice none 0 0, .bool bb]) (cs := [.int .i64 1, .string tg, .string tx, .slice none 0 0, .bool bb]) hi51 rfl rfl rfl (by rw [hs51]; rfl) rfl hwX]
            dsimp only
            have hkX : Keep g1.nb g1 ((g1.push ⟨[.int .i64 0, .string ⟨#[]⟩, .string ⟨#[]⟩, .slice none 0 0, .bool false], 1, true⟩).put g1.nb ⟨[.int .i64 1, .string tg, .string tx, .slice none 0 0, .bool bb], 1, true⟩) := ⟨by show g1.nb ≤ g1.nb + 1; omega, fun k hk => by rw [get_put_ne hgX0 _ (by omega), get_push_old _ (by omega)]⟩
            have hgX := get_put_same hgX0 ⟨[.int .i64 1, .string tg, .string tx, .slice none 0 0, .bool bb], 1, true⟩
            have hX : g1.nb < ((g1.push ⟨[.int .i64 0, .string ⟨#[]⟩, .string ⟨#[]⟩, .slice none 0 0, .bool false], 1, true⟩).put g1.nb ⟨[.int .i64 1, .string tg, .string tx, .slice none 0 0, .bool bb], 1, true⟩).nb := by show g1.nb < g1.nb + 1; omega
            generalize (g1.push ⟨[.int .i64 0, .string ⟨#[]⟩, .string ⟨#[]⟩, .slice none 0 0, .bool false], 1, true⟩).put g1.nb ⟨[.int .i64 1, .string tg, .string tx, .slice none 0 0, .bool bb], 1, true⟩ = g2 at hkX hgX hX ⊢
            have hd2 := hd.hold (b := g1.nb) hkX (Nat.le_refl _) hX
            have hgB2 := (hkX.2 g.nb hB).trans hgB
            have rB02 := read1 hgB2 (o := 0) (v := .int .i64 7) rfl
            refine CodeR.seq (CodeR.seq (CodeR.region ?_))
            simp [OpR, xwant, bOf, lightK, lop, evl, flat, flat0, putT, thenR, List.range, List.range.loop, isLen, isMM, callAt, isApp, isFn, evls, Tryz.underlying46, Tryz.underlying3, Tryz.underlying9, Tryz.underlying26, Tryz.underlying51, hi46, hs46, hi3, hs3, hi9, hs9, hi51, hs51, aggD, rB02]
            simp only [nilEq_int]
            rw [lp_eql (k := .i64) (a := 7) (b := 3) rfl rfl]
            simp [OpR]
            refine CodeR.cond (b := false) (by simp [evl]) ?_
            simp only [Bool.false_eq_true, if_false]
            refine CodeR.skip ?_
            simp only [thenR]
            refine CodeR.seq (CodeR.seq (CodeR.region ?_))
            simp [OpR, xwant, bOf, lightK, lop, evl, flat, flat0, putT, thenR, List.range, List.range.loop, isLen, isMM, callAt, isApp, isFn, evls, Tryz.underlying46, Tryz.underlying3, Tryz.underlying9, Tryz.underlying26, Tryz.underlying51, hi46, hs46, hi3, hs3, hi9, hs9, hi51, hs51, aggD, rB02]
            simp only [nilEq_int]
            rw [lp_eql (k := .i64) (a := 7) (b := 5) rfl rfl]
            simp [OpR]
            refine CodeR.cond (b := false) (by simp [evl]) ?_
            simp only [Bool.false_eq_true, if_false]
            refine CodeR.skip ?_
            simp only [thenR]
            have rM0' := read1 hd2.box (o := 0) (v := ns) rfl
            have rX : g2.read g1.nb 0 5 = some (ndCells nd) := by
              unfold HP.read
              rw [hgX, hnd]
              rfl
            subst hns
            obtain ⟨v', h4, on', happ, hcv, hisc, hwr, hd4, hkp4⟩ := hd2.node nd hnk (by omega)
            refine CodeR.seq (CodeR.region ?_)
            simp [OpR, xwant, bOf, lightK, lop, evl, flat, flat0, putT, thenR, List.range, List.range.loop, isLen, isMM, callAt, isApp, isFn, evls, Tryz.underlying46, Tryz.underlying3, Tryz.underlying9, Tryz.underlying26, Tryz.underlying51, hi46, hs46, hi3, hs3, hi9, hs9, hi51, hs51, aggD, Tryz.underlying28, Tryz.underlying25, hi28, hs28, hi25, hs25, rM0', rX]
            rw [build5 (nd := nd) rfl]
            dsimp only
            rw [hop_app (vx := .slice pn N.length cn) (vy := .slice (some ⟨g2.nb, 0, none⟩) 1 1) Tryz.underlying25 Tryz.underlying25 rfl rfl, happ]
            dsimp only
            rw [hop_store (b := h1.nb) (off := 0) (v := v') hi25 rfl rfl hcv (by rw [hs25]; rfl) (by simp [hisc]) hwr]
            dsimp only
            generalize h4.put h1.nb ⟨[v', rs], 1, true⟩ = g4 at hd4 hkp4 ⊢
            have hgB4 := (hkp4.2 g.nb (by omega) (.inr (by simp))).trans ((hkX.2 g.nb hB).trans hgB)
            have rB34 := read1 hgB4 (o := 3) (v := .string an) rfl
            have he0 : (⟨#[]⟩ : ByteArray).toList = [] := by decide +kernel
            have hK4 : Kp h1.nb [g.nb] g1 g4 := (Kp.of_keep hkX).trans (hkp4.less (by simp))
            have hb4 := hbd0.node hnk
            refine CodeR.seq (CodeR.region ?_)
            simp [OpR, xwant, bOf, lightK, lop, evl, flat, flat0, putT, thenR, List.range, List.range.loop, isLen, isMM, callAt, isApp, isFn, evls, Tryz.underlying46, Tryz.underlying3, Tryz.underlying9, Tryz.underlying26, Tryz.underlying51, hi46, hs46, hi3, hs3, hi9, hs9, hi51, hs51, aggD, rB34]
            simp only [nilEq_str]
            rw [lp_neqs (a := an) (b := ⟨#[]⟩) rfl rfl]
            simp [OpR]
            cases hE : an.toList == []
            · refine CodeR.cond (b := true) (by simp [evl, he0]; simpa using hE) ?_
              simp only [if_true]
              obtain ⟨v5, g5, po', happ5, hd5, hkp5⟩ := hd4.named an N.length (by omega)
              obtain ⟨i64, hi64, hs64, hz64, hb64⟩ := pair64
              refine CodeR.region ?_
              simp [OpR, xwant, bOf, lightK, lop, evl, flat, flat0, putT, thenR, List.range, List.range.loop, isLen, isMM, callAt, isApp, isFn, evls, Tryz.underlying46, Tryz.underlying3, Tryz.underlying9, Tryz.underlying26, Tryz.underlying51, hi46, hs46, hi3, hs3, hi9, hs9, hi51, hs51, aggD, rB34, evps, co_i, co_s, zero64, bld64]
              rw [if_pos (show isCell (.string an) = true ∧ isCell (.int .i64 N.length) = true from ⟨rfl, rfl⟩)]
              dsimp only
              rw [build62 (s := an) (n := N.length) rfl]
              dsimp only
              rw [hop_app (vx := nm) (vy := .slice (some ⟨g4.nb, 0, none⟩) 1 1) Tryz.underlying62 Tryz.underlying62 rfl rfl, happ5]
              dsimp only
              refine ⟨fun k => List.getD _ k undef, sl10_of _ rfl, rfl, rfl, rfl, rfl, rfl, rfl, rfl, rfl, N.length, ⟨N ++ [nd], R, O, P ++ [(an, N.length)]⟩, rfl, ⟨_, _, _, _, _, _, _, hd5.free⟩, hK4.trans (hkp5.less (by simp)), hb4, ?_⟩
              rw [hst, hE]
              simp
            · refine CodeR.cond (b := false) (by simp [evl, he0]; simpa using hE) ?_
              simp only [Bool.false_eq_true, if_false]
              refine CodeR.skip ?_
              refine ⟨fun k => List.getD _ k undef, sl10_of _ rfl, rfl, rfl, rfl, rfl, rfl, rfl, rfl, rfl, N.length, ⟨N ++ [nd], R, O, P⟩, rfl, ⟨_, _, _, _, _, _, _, hd4.free⟩, hK4, hb4, ?_⟩
              rw [hst, hE]
              simp
      · have hng : h1.nb ≤ g.nb := ckp.1
        have hng1 : h1.nb ≤ g1.nb := by have := hkz.1; omega
        rintro ex t' g' ⟨f', rfl, a0, a1, a2, a6, a8, a11, a12, hx⟩
        cases ex with
        | normal =>
          obtain ⟨a7, m, s1, a13, ⟨ns1, rs1, on1, r1, oo1, po1, KI1, hd1⟩, hkp, hb1, hst⟩ := hx
          simp only [thenR]
          unfold sl10
          rw [a0, a1, a2, a6, a7, a8, a11, a12, a13]
          generalize f' 9 = os1 at hd1 ⊢
          generalize f' 10 = nm1 at hd1 ⊢
          obtain ⟨N1, R1, O1, P1⟩ := s1
          dsimp only at hd1 hb1 hst
          obtain ⟨po2, co2, hos1⟩ := lst_slice hd1.opn
          obtain ⟨i26, hi26, hs26⟩ := size26
          obtain ⟨i51, hi51, hs51, hz51, hb51⟩ := node51
          have hb1o := hb1.o
          have hb1n := hb1.n
          have hb1r := hb1.r
          have hnb' := hkp.1
          have hgB1 := (hkp.2 g.nb hB (.inr (by simp))).trans hgB
          subst hos1
          refine CodeR.seq (CodeR.seq (CodeR.region ?_))
          simp [OpR, xwant, lightK, lop, evl, flat, flat0, putT, thenR, List.range, List.range.loop, isLen, Tryz.underlying26]
          refine CodeR.mono (Q := PT L.length (some ⟨b, off, none⟩) c D K h.nb h1.nb h1.nb g.nb i g' m ⟨N1, R1, O1, P1⟩) ?_ ?_
          · refine CodeR.seq (CodeR.region ?_)
            simp [OpR, xwant, lightK, lop, evl, flat, flat0, putT, thenR, List.range, List.range.loop, isLen, isMM, callAt, isApp, isFn, evls]
            simp only [nilEq_int]
            rw [lp_gtr (k := .i64) (a := (O1.length : Nat)) (b := 0) rfl rfl]
            simp [OpR]
            cases hO : O1.getLast? with
            | none =>
              have hO' : O1 = [] := List.getLast?_eq_none_iff.1 hO
              subst hO'
              refine CodeR.cond (b := false) (by simp [evl]) ?_
              simp only [Bool.false_eq_true, if_false]
              obtain ⟨v', h4, r', happ, hcv, hisc, hwr, hd4, hkp4⟩ := hd1.root m (by omega)
              have rM1 := read1 hd1.box (o := 1) (v := rs1) rfl
              refine CodeR.region ?_
              simp [OpR, xwant, lightK, lop, evl, flat, flat0, putT, thenR, List.range, List.range.loop, Tryz.underlying28, Tryz.underlying26, hi28, hs28, hi26, hs26, aggD, isLen, isMM, callAt, isApp, isFn, evls, rM1, build1]
              rw [hop_app (vx := rs1) (vy := .slice (some ⟨g'.nb, 0, none⟩) 1 1) Tryz.underlying26 Tryz.underlying26 rfl rfl, happ]
              dsimp only
              rw [hop_store (b := h1.nb) (off := 1) (v := v') hi26 rfl rfl hcv (by rw [hs26]; rfl) (by simp [hisc]) hwr]
              dsimp only
              exact ⟨rfl, fun k => List.getD _ k undef, sl10_of _ rfl, rfl, rfl, rfl, rfl, rfl, rfl, rfl, rfl, rfl, ⟨_, _, _, _, _, _, _, hd4⟩, hkp4⟩
            | some tt =>
              obtain ⟨O', rfl⟩ := List.getLast?_eq_some_iff.1 hO
              have htt := hb1.t tt (by simp)
              obtain ⟨y, hy⟩ : ∃ y, N1[tt]? = some y := ⟨_, List.getElem?_eq_getElem htt⟩
              have hky := hb1.k y (List.mem_of_getElem? hy)
              obtain ⟨bn, cn2, v, v', h4, h5, l, KI', hns1, hrk, ⟨pv, mv, qv, hv⟩, happ, hcv, hisc, hwr, he4, hM4, hb4, hd5, hkp5⟩ := hd1.kid hy (m : Int) (by omega)
              have hpn : putN N1 R1 (O' ++ [tt]) m = (N1.set tt { y with kids := y.kids ++ [(m : Int)] }, R1) := by
                unfold putN kidN
                rw [hO]
                dsimp only
                rw [hy]
              have hopn1 := hd1.opn
              obtain ⟨p1, p2⟩ := hopn1
              have hOl : (O' ++ [tt]).length = O'.length + 1 := by simp
              rcases p2 with ⟨-, q, -⟩ | ⟨bo, co, ro, p3, p4, hgo, hro, hnco, hclo⟩
              · omega
              cases p3
              have htop : ro[O'.length]? = some (.int .i64 (tt : Int)) := by
                have : (ro.take ((O' ++ [tt]).length * 1))[O'.length]? = some (.int .i64 (tt : Int)) := by
                  rw [hro]
                  simp [ints, nums]
                rwa [List.getElem?_take_of_lt (by omega)] at this
              have hrt := read1 hgo htop
              have rM0 := read1 hd1.box (o := 0) (v := ns1) rfl
              refine CodeR.cond (b := true) (by simp [evl]) ?_
              simp only [if_true]
              have hltO : (O'.length : Int) < (O'.length : Int) + 1 := by omega
              refine CodeR.seq (CodeR.region ?_)
              simp [OpR, xwant, lightK, lop, evl, flat, flat0, putT, thenR, List.range, List.range.loop, isLen, isMM, callAt, isApp, isFn, evls]
              simp only [nilEq_int]
              rw [lp_sub (k := .i64) (a := (O'.length : Int) + 1) (b := 1) rfl rfl, show IntKind.i64.wrap ((O'.length : Int) + 1 - 1) = (O'.length : Int) by rw [IntWalk.i64_in _ (by omega)]; omega]
              simp [OpR, xwant, lightK, lop, evl, flat, flat0, putT, thenR, Tryz.underlying26, Tryz.underlying3, hi3, hs3, aggD, hrt, hltO]
              subst hns1
              subst hv
              have hpe : Else g' (g'.push ⟨[.int .i64 (m : Int)], 1, true⟩) [] := ⟨by show g'.nb ≤ g'.nb + 1; omega, fun k hk _ => get_push_old _ (by omega)⟩
              have hDD : ∀ q ∈ [(h1.nb, 0), (bn, tt * 5 + 3)], q.1 ∉ l ∧ ∃ v, g'.read q.1 q.2 1 = some [v] ∧ sameC v v = true := fun q hq => by
                simp only [List.mem_cons, List.not_mem_nil, or_false] at hq
                rcases hq with rfl | rfl
                · exact ⟨hM4, _, rM0, sameC_slice⟩
                · exact ⟨hb4, _, hrk, sameC_slice⟩
              refine CodeR.drawn fx_any (List.range 15) [14] [(h1.nb, 0), (bn, tt * 5 + 3)] (by kernel_rfl) (ag_two rM0 sameC_slice hrk sameC_slice) ?_
              simp [OpR, xwant, lightK, lop, evl, flat, flat0, putT, thenR, List.range, List.range.loop, Tryz.underlying28, Tryz.underlying25, Tryz.underlying51, Tryz.underlying26, hi28, hs28, hi25, hs25, hi51, hs51, hi26, hs26, aggD, isLen, isMM, callAt, isApp, isFn, evls, rM0, hrk, htt, build1]
              refine ⟨ag_else hpe (fun q hq => ⟨by simp, (hDD q hq).2⟩), ?_⟩
              rw [hop_app (vx := .slice pv mv qv) (vy := .slice (some ⟨g'.nb, 0, none⟩) 1 1) Tryz.underlying26 Tryz.underlying26 rfl rfl, happ]
              dsimp only
              refine ⟨ag_else he4 hDD, ?_⟩
              rw [hop_store (b := bn) (off := tt * 5 + 3) (v := v') hi26 rfl rfl hcv (by rw [hs26]; rfl) (by simp [hisc]) hwr]
              dsimp only
              refine ⟨rfl, fun k => List.getD _ k undef, sl10_of _ rfl, rfl, rfl, rfl, rfl, rfl, rfl, rfl, rfl, rfl, ?_, hkp5⟩
              rw [show putN (CS.mk N1 R1 (O' ++ [tt]) P1).N (CS.mk N1 R1 (O' ++ [tt]) P1).R (CS.mk N1 R1 (O' ++ [tt]) P1).O m = _ from hpn]
              rw [hOl] at hd5
              exact ⟨_, _, _, _, _, _, _, hd5⟩
          · rintro ex t2 g2 ⟨rfl, f2, rfl, b0, b1, b2, b6, b7, b8, b11, b12, b13, ⟨ns2, rs2, on2, r2, oo2, po3, KI2, hd2⟩, hkp2⟩
            simp only [thenR]
            unfold sl10
            rw [b0, b1, b2, b6, b7, b8, b11, b12, b13]
            generalize f2 9 = os2 at hd2 ⊢
            generalize f2 10 = nm2 at hd2 ⊢
            dsimp only at hd2
            have hgB2 := (hkp2.2 g.nb (by omega) (.inr (by simp))).trans hgB1
            have rB2 := read1 hgB2 (o := 0) (v := .int .i64 e.k) rfl
            have hKK : Kp h1.nb [] g1 g2 := (hkp.trans hkp2).less (by simp)
            refine CodeR.seq (CodeR.region ?_)
            simp [OpR, xwant, lightK, lop, evl, flat, flat0, putT, thenR, List.range, List.range.loop, Tryz.underlying46, Tryz.underlying3, hi46, hs46, hi3, hs3, aggD, rB2, isLen, isMM, callAt, isApp, isFn, evls]
            simp only [nilEq_int]
            rw [lp_eql (k := .i64) (a := e.k) (b := 3) rfl rfl]
            by_cases hk3 : e.k = 3
            · rw [show (e.k == 3) = true by simp [hk3]]
              simp [OpR, xwant, bOf, lightK, lop, evl, flat, flat0, putT, thenR]
              have hst' := hst
              rw [if_pos (.inl hk3)] at hst
              refine CodeR.cond (b := true) (by simp [evl]) ?_
              simp only [if_true]
              have hlen2 : O1.length + 1 ≤ 5864062014805 := by omega
              obtain ⟨v6, g6, oo6, happ6, hd6, hkp6⟩ := hd2.opens m hlen2
              obtain ⟨po6, co6, hos6⟩ := lst_slice hd2.opn
              refine CodeR.region ?_
              simp [OpR, xwant, lightK, lop, evl, flat, flat0, putT, thenR, blockR, List.range, List.range.loop, isLen, isMM, callAt, isApp, isFn, evls, build1]
              rw [hop_app (vx := os2) (vy := .slice (some ⟨g2.nb, 0, none⟩) 1 1) Tryz.underlying26 Tryz.underlying26 rfl rfl, happ6]
              dsimp only
              try simp only [thenR, blockR]
              refine CodeR.region ?_
              simp [OpR, xwant, lightK, lop, evl, flat, flat0, putT, thenR, List.range, List.range.loop]
              rw [lp_add (k := .i64) (a := (i : Nat)) (b := 1) rfl rfl]
              try simp only [nilEq_int]
              have hwr : IntKind.i64.wrap ((i : Int) + 1) = ((i + 1 : Nat) : Int) := by rw [IntWalk.i64_in _ (by omega)]; omega
              rw [hwr]
              refine ⟨L.length - (i + 1), by omega, i + 1, by omega, rfl, fun k => List.getD _ k undef, sl10_of _ rfl, rfl, rfl, rfl, rfl, rfl, rfl, rfl, hci0.next hr hev ((hkz.low hng).trans ((hKK.trans (hkp6.less (by simp))).keep hng1)) (by rw [hst]) ?_⟩
              rw [hst]
              exact ⟨_, _, _, _, _, _, _, hd6.free⟩
            · rw [show (e.k == 3) = false by simp [hk3]]
              simp [OpR, xwant, bOf, lightK, lop, evl, flat, flat0, putT, thenR, Tryz.underlying46, Tryz.underlying3, hi46, hs46, hi3, hs3, aggD, rB2]
              try simp only [nilEq_int]
              rw [lp_eql (k := .i64) (a := e.k) (b := 5) rfl rfl]
              by_cases hk5 : e.k = 5
              · rw [show (e.k == 5) = true by simp [hk5]]
                simp [OpR, xwant, bOf, lightK, lop, evl, flat, flat0, putT, thenR]
                rw [if_pos (.inr hk5)] at hst
                refine CodeR.cond (b := true) (by simp [evl]) ?_
                simp only [if_true]
                have hlen2 : O1.length + 1 ≤ 5864062014805 := by omega
                obtain ⟨v6, g6, oo6, happ6, hd6, hkp6⟩ := hd2.opens m hlen2
                obtain ⟨po6, co6, hos6⟩ := lst_slice hd2.opn
                refine CodeR.region ?_
                simp [OpR, xwant, lightK, lop, evl, flat, flat0, putT, thenR, blockR, List.range, List.range.loop, isLen, isMM, callAt, isApp, isFn, evls, build1]
                rw [hop_app (vx := os2) (vy := .slice (some ⟨g2.nb, 0, none⟩) 1 1) Tryz.underlying26 Tryz.underlying26 rfl rfl, happ6]
                dsimp only
                try simp only [thenR, blockR]
                refine CodeR.region ?_
                simp [OpR, xwant, lightK, lop, evl, flat, flat0, putT, thenR, List.range, List.range.loop]
                rw [lp_add (k := .i64) (a := (i : Nat)) (b := 1) rfl rfl]
                try simp only [nilEq_int]
                have hwr : IntKind.i64.wrap ((i : Int) + 1) = ((i + 1 : Nat) : Int) := by rw [IntWalk.i64_in _ (by omega)]; omega
                rw [hwr]
                refine ⟨L.length - (i + 1), by omega, i + 1, by omega, rfl, fun k => List.getD _ k undef, sl10_of _ rfl, rfl, rfl, rfl, rfl, rfl, rfl, rfl, hci0.next hr hev ((hkz.low hng).trans ((hKK.trans (hkp6.less (by simp))).keep hng1)) (by rw [hst]) ?_⟩
                rw [hst]
                exact ⟨_, _, _, _, _, _, _, hd6.free⟩
              · rw [show (e.k == 5) = false by simp [hk5]]
                simp [OpR, xwant, bOf, lightK, lop, evl, flat, flat0, putT, thenR]
                rw [if_neg (not_or.2 ⟨hk3, hk5⟩)] at hst
                refine CodeR.cond (b := false) (by simp [evl]) ?_
                simp only [Bool.false_eq_true, if_false]
                refine CodeR.skip ?_
                try simp only [thenR, blockR]
                refine CodeR.region ?_
                simp [OpR, xwant, lightK, lop, evl, flat, flat0, putT, thenR, List.range, List.range.loop]
                rw [lp_add (k := .i64) (a := (i : Nat)) (b := 1) rfl rfl]
                try simp only [nilEq_int]
                have hwr : IntKind.i64.wrap ((i : Int) + 1) = ((i + 1 : Nat) : Int) := by rw [IntWalk.i64_in _ (by omega)]; omega
                rw [hwr]
                refine ⟨L.length - (i + 1), by omega, i + 1, by omega, rfl, fun k => List.getD _ k undef, sl10_of _ rfl, rfl, rfl, rfl, rfl, rfl, rfl, rfl, hci0.next hr hev ((hkz.low hng).trans (hKK.keep hng1)) (by rw [hst]) ?_⟩
                rw [hst]
                exact ⟨_, _, _, _, _, _, _, hd2.free⟩
        | exit q =>
          obtain ⟨rfl, a7, hdx, hkp, hst⟩ := hx
          simp only [thenR, blockR, if_true]
          unfold sl10
          rw [a0, a1, a2, a6, a7, a8, a11, a12]
          generalize f' 9 = os1 at hdx ⊢
          generalize f' 10 = nm1 at hdx ⊢
          refine CodeR.region ?_
          simp [OpR, xwant, lightK, lop, evl, flat, flat0, putT, thenR, List.range, List.range.loop]
          rw [lp_add (k := .i64) (a := (i : Nat)) (b := 1) rfl rfl]
          simp only [nilEq_int]
          have hwr : IntKind.i64.wrap ((i : Int) + 1) = ((i + 1 : Nat) : Int) := by rw [IntWalk.i64_in _ (by omega)]; omega
          rw [hwr]
          refine ⟨L.length - (i + 1), by omega, i + 1, by omega, rfl, fun k => List.getD _ k undef, sl10_of _ rfl, rfl, rfl, rfl, rfl, rfl, rfl, rfl, hci0.next hr hev ((hkz.low hng).trans (hkp.keep hng1)) hst ?_⟩
          exact hdx
        | ret =>
          obtain ⟨x, hx0, hst, a7, hgr, hnb, hlow⟩ := hx
          simp only [thenR, blockR]
          have herr := hci0.err hev (by rw [hst]; exact hx0)
          have hp : compP L depth nodes = (x, [], []) := by
            unfold compP
            rw [hr, if_pos rfl]
            dsimp only
            rw [hD, hK, herr, hst, if_neg hx0]
          refine hQ _ _ _ [.agg #[.slice none 0 0, .slice none 0 0], .int .i64 x] (.inr rfl) (xres10 a6 hgr a7) (.inr ⟨by simp, rfl, ⟨?_, fun k hk => ?_⟩, .slice none 0 0, .slice none 0 0, ?_⟩)
          · have := hkz.1
            have := hk0.1
            have := ckp.1
            omega
          · rw [hlow k hk, hkz.2 k (by omega), ckp.2 k (by omega)]
            exact hk0.2 k hk
          · rw [hp]
            exact ⟨rfl, GrAt.nil _⟩
        | _ => exact hx.elim
    · refine CodeR.cond (b := false) (by simp [evl, hlt]) ?_
      simp only [Bool.false_eq_true, if_false]
      refine CodeR.exit ?_
      simp only [thenR, blockR, if_true]
      have hiL : i = L.length := by omega
      subst hiL
      have hng : h1.nb ≤ g.nb := hci.kp.1
      obtain ⟨ckp, cle, cok, ⟨ns, rs, on, r, oo, po, KI, hd⟩, crel, cokp, cst, cpl⟩ := hci
      rw [List.take_length] at cok hd
      have hrd2 : g.read h1.nb 0 2 = some [ns, rs] := by
        unfold HP.read
        rw [hd.box]
        rfl
      have hgr : g.get h.nb = some ⟨[.slice none 0 0, .slice none 0 0], 1, true⟩ := by
        rw [ckp.2 h.nb (by omega)]
        exact hg0
      obtain ⟨pn, cn, rfl⟩ := lst_slice hd.nodes
      obtain ⟨pr, cr, rfl⟩ := lst_slice hd.roots
      generalize hN : (goC D K L ⟨[], [], [], []⟩).2.N = N at hd hrd2
      generalize hR : (goC D K L ⟨[], [], [], []⟩).2.R = R at hd hrd2
      have hw3 : g.write h.nb 0 [.slice pn N.length cn, .slice pr R.length cr] = some (g.put h.nb ⟨[.slice pn N.length cn, .slice pr R.length cr], 1, true⟩) := by
        unfold HP.write
        rw [hgr]
        rfl
      refine CodeR.seq (CodeR.region ?_)
      simp [OpR, xwant, lightK, lop, evl, flat, flat0, putT, thenR, List.range, List.range.loop, Tryz.underlying28, hi28, hs28, aggD, hrd2, isLen, isMM, callAt, isApp, isFn, evls]
      rw [hop_store (b := h.nb) (off := 0) (v := .agg #[.slice pn N.length cn, .slice pr R.length cr]) (cs := [.slice pn N.length cn, .slice pr R.length cr]) hi28 rfl rfl rfl (by rw [hs28]; rfl) rfl hw3]
      dsimp only
      refine CodeR.ret ?_
      try simp only [thenR, blockR]
      have hp : compP L depth nodes = (0, N, R) := by
        unfold compP
        rw [hr, if_pos rfl]
        dsimp only
        rw [hD, hK, cok, if_pos rfl, hN, hR]
      refine hQ _ _ _ [.agg #[.slice pn N.length cn, .slice pr R.length cr], .int .i64 0] (.inr rfl) (xres10 rfl (get_put_same hgr _) rfl) (.inr ⟨by simp, rfl, ⟨?_, fun k hk => ?_⟩, .slice pn N.length cn, .slice pr R.length cr, ?_⟩)
      · have := hk0.1
        show h.nb ≤ g.nb
        omega
      · rw [get_put_ne hgr _ (by omega), ckp.2 k (by omega)]
        exact hk0.2 k hk
      · rw [hp]
        exact ⟨rfl, (hd.low (h' := g.put h.nb ⟨[.slice pn N.length cn, .slice pr R.length cr], 1, true⟩) (l := [h.nb]) ⟨Nat.le_refl _, fun k hk hkl => get_put_ne hgr _ (by simpa using hkl)⟩ (by simp; omega)).gr⟩
end Go.Proofs.YteeanpfhngoobaaGreat.Xk
