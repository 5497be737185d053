/- ComposeAnchors: its walk. -/
import Derived.Test.YteeanpfhngoobaaGreatZXup
set_option linter.all false
set_option maxRecDepth 100000
namespace Go.Proofs.YteeanpfhngoobaaGreat.Xk
open Go.RowKit

def sl6 (f : Nat → Value) : List Value := f 0 :: f 1 :: f 2 :: f 3 :: f 4 :: f 5 :: f 6 :: f 7 :: f 8 :: f 9 :: f 10 :: f 11 :: f 12 :: f 13 :: f 14 :: f 15 :: f 16 :: f 17 :: f 18 :: f 19 :: f 20 :: f 21 :: f 22 :: f 23 :: f 24 :: f 25 :: f 26 :: f 27 :: f 28 :: f 29 :: f 30 :: f 31 :: f 32 :: f 33 :: f 34 :: f 35 :: f 36 :: f 37 :: f 38 :: f 39 :: f 40 :: f 41 :: f 42 :: f 43 :: f 44 :: f 45 :: f 46 :: f 47 :: f 48 :: f 49 :: f 50 :: f 51 :: f 52 :: f 53 :: f 54 :: f 55 :: f 56 :: f 57 :: f 58 :: f 59 :: f 60 :: f 61 :: f 62 :: f 63 :: f 64 :: f 65 :: f 66 :: f 67 :: f 68 :: f 69 :: f 70 :: f 71 :: f 72 :: f 73 :: f 74 :: f 75 :: f 76 :: f 77 :: f 78 :: f 79 :: f 80 :: f 81 :: f 82 :: f 83 :: f 84 :: f 85 :: f 86 :: f 87 :: f 88 :: f 89 :: f 90 :: f 91 :: f 92 :: f 93 :: f 94 :: f 95 :: f 96 :: f 97 :: f 98 :: f 99 :: f 100 :: f 101 :: f 102 :: f 103 :: f 104 :: f 105 :: f 106 :: f 107 :: f 108 :: f 109 :: f 110 :: f 111 :: f 112 :: f 113 :: f 114 :: f 115 :: f 116 :: f 117 :: f 118 :: f 119 :: f 120 :: f 121 :: f 122 :: f 123 :: f 124 :: f 125 :: f 126 :: f 127 :: f 128 :: f 129 :: f 130 :: f 131 :: f 132 :: f 133 :: f 134 :: f 135 :: f 136 :: f 137 :: f 138 :: f 139 :: f 140 :: f 141 :: f 142 :: []
theorem sl6_map (f : Nat → Value) : sl6 f = (List.range 143).map f := by kernel_rfl
theorem sl6_of (t : List Value) (h : t.length = 143) : t = sl6 (fun k => t.getD k undef) := by
  rw [sl6_map]
  refine List.ext_getElem (by simp [h]) fun i h1 h2 => ?_
  simp [h1]
/-- The loop: so many numbers were looked at. -/
def AI (len : Nat) (p : Option Addr) (c n Bn Bl : Nat) (h0 : HP) (i e : Nat) (t : List Value) (g : HP) : Prop :=
  ∃ (f : Nat → Value) (s : AS) (oe ow : Option Nat), t = sl6 f ∧ f 0 = .slice p len c ∧ f 4 = .slice (some ⟨Bn, 0, none⟩) 3 3 ∧ f 6 = .pointer (some ⟨Bl, 0, none⟩) ∧ f 8 = .int .i64 s.n ∧ f 9 = .bool s.bad ∧ f 10 = .int .i64 i ∧ AM g n Bn Bl (f 5) (f 7) (pre ++ s.E) s.last s.W oe ow ∧ Keep n h0 g ∧ INV s ∧ s.E.length = e
theorem evC_cells (e : Ev) : (evC e).all isCell = true := rfl
theorem co_st (b : ByteArray) : (cellsOf (Value.string b)).isSome = true := rfl
theorem evC_all (e : Ev) : (∀ (i : Nat) (x : i < (evC e).length), isCell (evC e)[i] = true) = True := by
  simp only [eq_iff_iff, iff_true]
  intro i hx
  exact List.all_eq_true.1 (evC_cells e) _ (List.getElem_mem hx)
theorem bldS2 (s : ByteArray) (k : Nat) : pur Tryz.prog (Instr.build 46 #[(0, .int .i64 7), (4, .int .i64 1), (1, .string s), (3, .string (nm k))]) = some (.agg (evC (evS s k)).toArray) := bldS s (nm k)
theorem bldA0 : pur Tryz.prog (Instr.build 46 #[(0, .int .i64 8), (3, .string ⟨#[97]⟩)]) = some (.agg (evC (evA 0)).toArray) := bldA nmA
theorem bldA2 (k : Nat) : pur Tryz.prog (Instr.build 46 #[(0, .int .i64 8), (3, .string (nm k))]) = some (.agg (evC (evA k)).toArray) := bldA (nm k)
theorem AM.start (h : HP) : ∃ g, ((h.push ⟨[.string nmA, .string nmB, .string nmC], 1, true⟩).push ⟨Go.Proofs.YteeanpfhngoobaaGreat.flat [evK 1, evK 3], 6, true⟩).push ⟨ints [0, 0, 0], 1, true⟩ = g ∧ AM g h.nb h.nb (h.nb + 1 + 1) (.slice (some ⟨h.nb + 1, 0, none⟩) 2 2) (.slice none 0 0) (pre ++ as0.E) as0.last as0.W (some (h.nb + 1)) none ∧ Keep h.nb h g := by
  refine ⟨_, rfl, ?_, ⟨by show h.nb ≤ h.nb + 1 + 1 + 1; omega, fun k hk => by
    rw [get_push_old _ (by show k ≠ h.nb + 1 + 1; omega), get_push_old _ (by show k ≠ h.nb + 1; omega), get_push_old _ (by omega)]⟩⟩
  have hlen := flat_len [evK 1, evK 3]
  exact { nn := Nat.le_refl _, nl := by omega, ne := by omega
          names := by rw [get_push_old _ (by show h.nb ≠ h.nb + 1 + 1; omega), get_push_old _ (by show h.nb ≠ h.nb + 1; omega), get_push_new]
          last := get_push_new _
          ev := ⟨hlen, .inr ⟨h.nb + 1, 2, Go.Proofs.YteeanpfhngoobaaGreat.flat [evK 1, evK 3], rfl, rfl, by rw [get_push_old _ (by show h.nb + 1 ≠ h.nb + 1 + 1; omega)]; exact get_push_new _, List.take_of_length_le (by rw [hlen]; exact Nat.le_refl _), Nat.le_refl _, by rw [hlen]; exact Nat.le_refl _⟩⟩
          want := ⟨rfl, .inl ⟨rfl, rfl, rfl⟩⟩
          oeh := fun b hb => by cases hb; refine ⟨by omega, by omega, by omega⟩
          owh := fun b hb => by cases hb
          ap := fun b _ hb => by cases hb }
theorem nm_read {g : HP} {Bn k : Nat} (h : g.get Bn = some ⟨[.string nmA, .string nmB, .string nmC], 1, true⟩) (hk : k < 3) : g.read Bn k 1 = some [.string (nm k)] := by
  have : k = 0 ∨ k = 1 ∨ k = 2 := by omega
  rcases this with rfl | rfl | rfl <;> exact read1 h rfl
theorem la_read {g : HP} {Bl k : Nat} {la : List Int} (h : g.get Bl = some ⟨ints la, 1, true⟩) (hk : k < la.length) : g.read Bl k 1 = some [.int .i64 (la.getD k 0)] := by
  refine read1 h ?_
  unfold ints
  rw [List.getElem?_map, List.getElem?_eq_getElem hk]
  simp [hk]
theorem ag_keep {g g' : HP} {b o : Nat} {v : Value} (hr : g.read b o 1 = some [v]) (hr' : g'.read b o 1 = some [v]) (hs : sameC v v = true) : AG [(b, o)] g g' := fun p hp => by
  obtain rfl := List.mem_singleton.1 hp
  unfold sameAt
  rw [hr, hr']
  exact hs
theorem flat_one (e : Ev) : Go.Proofs.YteeanpfhngoobaaGreat.flat [e] = evC e := rfl
theorem Lst.evAt {h : HP} {v : Value} {L : List Ev} {own : Option Nat} (hl : Lst h 6 v (Go.Proofs.YteeanpfhngoobaaGreat.flat L) L.length own) : EvAt h h.nb v L := by
  rcases hl.2 with ⟨rfl, q, -⟩ | ⟨b, c, r, rfl, -, hg, hr, hnc, hcl⟩
  · exact .inl ⟨by simp [q], List.eq_nil_of_length_eq_zero q⟩
  · refine .inr ⟨b, 0, c, rfl, get_lt hg, ?_⟩
    unfold HP.read
    rw [hg]
    dsimp only
    rw [if_pos ⟨rfl, by omega⟩, List.drop_zero, hr]
theorem Lst.appd {h : HP} {sz n : Nat} {v : Value} {cs : List Value} {own : Option Nat} (hl : Lst h sz v cs n own) (hn : 0 < n) : appended h sz v = some (n, cs) := by
  rcases hl.2 with ⟨rfl, q, -⟩ | ⟨b, c, r, rfl, -, hg, hr, hnc, hcl⟩
  · omega
  · have := Nat.mul_le_mul_right sz hnc
    unfold appended
    dsimp only
    unfold HP.read
    rw [hg]
    dsimp only
    rw [if_pos ⟨rfl, by omega⟩, List.drop_zero, hr]
theorem GrAt.kid0 {h : HP} {ns rs : Value} {W R : List Int} {Nt : List Nd} (hg : GrAt h ns rs (root W :: Nt) R) : ∃ b c v0 o, ns = .slice (some ⟨b, 0, none⟩) (Nt.length + 1) c ∧ h.read b 3 1 = some [v0] ∧ Lst h 1 v0 (ints W) W.length o := by
  obtain ⟨on, r, kv, oks, h1, h2, h3, h4, h5⟩ := hg
  match kv, oks, h3, h4 with
  | v0 :: kv', o0 :: oks', _, _ =>
    rcases h1.2 with ⟨-, q, -⟩ | ⟨b, c, rr, e1, -, hgb, hr, hnc, hcl⟩
    · simp at q
    · refine ⟨b, c, v0, o0, e1, ?_, h5 0 (root W) v0 o0 rfl rfl rfl⟩
      refine read1 hgb ?_
      have : (rr.take ((root W :: Nt).length * 5))[3]? = some v0 := by rw [hr]; rfl
      rwa [List.getElem?_take_of_lt (by simp; omega)] at this
theorem app_self {h : HP} {v : Value} {L : List Ev} {own : Option Nat} (hl : Lst h 6 v (Go.Proofs.YteeanpfhngoobaaGreat.flat L) L.length own) (h0 : 0 < L.length) (hmax : L.length ≤ 1048576) :
    ∃ v' h2 own', app Tryz.prog h 46 (.slice none 0 0) v = some (v', h2) ∧ Lst h2 6 v' (Go.Proofs.YteeanpfhngoobaaGreat.flat L) L.length own' ∧ Keep h.nb h h2 ∧ ∀ b, own' = some b → h.nb ≤ b := by
  obtain ⟨i, hi, hs, hz, hb⟩ := ev46
  obtain ⟨v', h2, own', a1, a2, a3, a4⟩ := app_lstk (P := Tryz.prog) (e := 46) (v := .slice none 0 0) (cs := []) (n := 0) (own := none) hi hz ⟨by rw [hs]; rfl, by omega, by omega⟩ ⟨by simp, .inl ⟨rfl, rfl, rfl⟩⟩ h0 (by rw [hs]; exact hl.appd h0) (by rw [hs, flat_len]) (by omega) (Nat.le_trans (Nat.mul_le_mul (by omega) hb) (by decide : 1048576 * 72 ≤ 140737488355328))
  rw [hs, List.nil_append, Nat.zero_add] at a2
  refine ⟨v', h2, own', a1, a2, ⟨a4.1, fun k hk => a4.2 k hk (by simp)⟩, fun b hb => ?_⟩
  rcases a3 with a3 | a3
  · rw [a3] at hb; cases hb
  · rw [a3] at hb; cases hb; exact Nat.le_refl _
set_option maxHeartbeats 8000000 in
theorem anchors_r {h : HP} {v : Value} {l : List Int} (he : IsR h h.nb v l) :
    CallR Tryz.prog 6 [v] h (fun u h' => u = .bool true ∧ Keep h.nb h h') := by
  obtain ⟨p, c, rfl⟩ : ∃ p c, v = .slice p l.length c := by
    rcases he with ⟨rfl, rfl⟩ | ⟨b, off, c, rfl, -⟩
    · exact ⟨_, _, rfl⟩
    · exact ⟨_, _, rfl⟩
  obtain ⟨i28, hi28, hs28⟩ := size28
  obtain ⟨i3, hi3, hs3, hz3, hb3⟩ := int3
  obtain ⟨i9, hi9, hs9⟩ := size9
  obtain ⟨i26, hi26, hs26⟩ := size26
  obtain ⟨i25, hi25, hs25⟩ := size25
  obtain ⟨i51, hi51, hs51⟩ := size51k
  refine CallR.of_body1 Tryz.func6 (by kernel_rfl) rfl fun Q hQ => ?_
  show CodeR _ _ ([.slice p l.length c] ++ List.replicate 142 undef) h _
  simp only [List.replicate, List.cons_append, List.nil_append]
  refine CodeR.seq (CodeR.region ?_)
  simp [OpR, xwant, bOf, lightK, lop, evl, flat, flat0, putT, thenR, List.range, List.range.loop, isLen, isMM, callAt, isApp, isFn, evls, Tryz.underlying26, sp_lss, sp_leq, sp_gtr, sp_geq, sp_eql, sp_neq, sp_add, sp_sub, sp_not, nilEq_int]
  refine CodeR.seq (CodeR.region ?_)
  simp [OpR, xwant, bOf, lightK, lop, evl, flat, flat0, putT, thenR, List.range, List.range.loop, isLen, isMM, callAt, isApp, isFn, evls, Tryz.underlying26, sp_lss, sp_leq, sp_gtr, sp_geq, sp_eql, sp_neq, sp_add, sp_sub, sp_not, nilEq_int]
  refine (alive_r h).mono ?_
  rintro u h' ⟨rfl, rfl⟩
  try simp [OpR, xwant, lightK, lop, evl, putT]
  refine CodeR.seq (CodeR.seq (CodeR.region ?_))
  by_cases h30 : 30 < l.length
  · have h30' : (30 : Int) < l.length := by omega
    simp [OpR, xwant, bOf, lightK, lop, evl, flat, flat0, putT, thenR, List.range, List.range.loop, isLen, isMM, callAt, isApp, isFn, evls, Tryz.underlying26, sp_lss, sp_leq, sp_gtr, sp_geq, sp_eql, sp_neq, sp_add, sp_sub, sp_not, nilEq_int, h30']
    refine CodeR.cond (b := true) (by simp [evl]) ?_
    simp only [if_true]
    refine CodeR.seq (CodeR.region ?_)
    simp [OpR, xwant, bOf, lightK, lop, evl, flat, flat0, putT, thenR, List.range, List.range.loop, isLen, isMM, callAt, isApp, isFn, evls, Tryz.underlying26, sp_lss, sp_leq, sp_gtr, sp_geq, sp_eql, sp_neq, sp_add, sp_sub, sp_not, nilEq_int]
    refine CodeR.ret ?_
    try simp only [thenR, blockR]
    exact hQ _ _ _ [.bool true] (.inr rfl) rfl (.inl ⟨_, rfl, rfl, Nat.le_refl _, fun _ _ => rfl⟩)
  have h30' : ¬ (30 : Int) < l.length := by omega
  simp [OpR, xwant, bOf, lightK, lop, evl, flat, flat0, putT, thenR, List.range, List.range.loop, isLen, isMM, callAt, isApp, isFn, evls, Tryz.underlying26, sp_lss, sp_leq, sp_gtr, sp_geq, sp_eql, sp_neq, sp_add, sp_sub, sp_not, nilEq_int, h30']
  refine CodeR.cond (b := false) (by simp [evl]) ?_
  simp only [Bool.false_eq_true, if_false]
  refine CodeR.skip ?_
  simp only [thenR]
  refine CodeR.seq (CodeR.region ?_)
  simp [OpR, xwant, bOf, lightK, lop, evl, flat, flat0, putT, thenR, List.range, List.range.loop, isLen, isMM, callAt, isApp, isFn, evls, Tryz.underlying26, sp_lss, sp_leq, sp_gtr, sp_geq, sp_eql, sp_neq, sp_add, sp_sub, sp_not, nilEq_int]
  rw [buildN]
  try simp [OpR, putT]
  refine CodeR.seq (CodeR.region ?_)
  simp [OpR, xwant, bOf, lightK, lop, evl, flat, flat0, putT, thenR, List.range, List.range.loop, isLen, isMM, callAt, isApp, isFn, evls, Tryz.underlying26, sp_lss, sp_leq, sp_gtr, sp_geq, sp_eql, sp_neq, sp_add, sp_sub, sp_not, nilEq_int, evps, co_i, zero46, bldK, evC_cells]
  rw [buildE2 (e1 := evK 1) (e2 := evK 3) rfl rfl]
  try simp [OpR, putT, xwant, lightK, lop, evl]
  refine CodeR.seq (CodeR.region ?_)
  simp [OpR, xwant, bOf, lightK, lop, evl, flat, flat0, putT, thenR, List.range, List.range.loop, isLen, isMM, callAt, isApp, isFn, evls, Tryz.underlying26, sp_lss, sp_leq, sp_gtr, sp_geq, sp_eql, sp_neq, sp_add, sp_sub, sp_not, nilEq_int]
  rw [alloc47]
  try simp [OpR, putT, xwant, lightK, lop, evl]
  obtain ⟨g0, hg0, ham0, hk0⟩ := AM.start h'
  have e1 : (h'.push ⟨[.string nmA, .string nmB, .string nmC], 1, true⟩).nb = h'.nb + 1 := rfl
  have e2 : ((h'.push ⟨[.string nmA, .string nmB, .string nmC], 1, true⟩).push ⟨Go.Proofs.YteeanpfhngoobaaGreat.flat [evK 1, evK 3], 6, true⟩).nb = h'.nb + 1 + 1 := rfl
  rw [hg0, e2, e1]
  refine CodeR.seq (CodeR.region ?_)
  simp [OpR, xwant, bOf, lightK, lop, evl, flat, flat0, putT, thenR, List.range, List.range.loop, isLen, isMM, callAt, isApp, isFn, evls, Tryz.underlying26, sp_lss, sp_leq, sp_gtr, sp_geq, sp_eql, sp_neq, sp_add, sp_sub, sp_not, nilEq_int]
  refine CodeR.seq (CodeR.region ?_)
  simp [OpR, xwant, bOf, lightK, lop, evl, flat, flat0, putT, thenR, List.range, List.range.loop, isLen, isMM, callAt, isApp, isFn, evls, Tryz.underlying26, sp_lss, sp_leq, sp_gtr, sp_geq, sp_eql, sp_neq, sp_add, sp_sub, sp_not, nilEq_int]
  refine CodeR.seq (CodeR.region ?_)
  simp [OpR, xwant, bOf, lightK, lop, evl, flat, flat0, putT, thenR, List.range, List.range.loop, isLen, isMM, callAt, isApp, isFn, evls, Tryz.underlying26, sp_lss, sp_leq, sp_gtr, sp_geq, sp_eql, sp_neq, sp_add, sp_sub, sp_not, nilEq_int]
  refine CodeR.seq (CodeR.seq (CodeR.region ?_))
  simp [OpR, xwant, bOf, lightK, lop, evl, flat, flat0, putT, thenR, List.range, List.range.loop, isLen, isMM, callAt, isApp, isFn, evls, Tryz.underlying26, sp_lss, sp_leq, sp_gtr, sp_geq, sp_eql, sp_neq, sp_add, sp_sub, sp_not, nilEq_int]
  refine CodeR.block ?_
  refine CodeR.loop (fun j t g => ∃ (i : Nat), i ≤ l.length ∧ j = l.length - i ∧ AI l.length p c h'.nb h'.nb (h'.nb + 1 + 1) h' i i t g) (n := l.length) ⟨0, Nat.zero_le _, rfl, fun k => List.getD _ k undef, as0, some (h'.nb + 1), none, sl6_of _ rfl, rfl, rfl, rfl, rfl, rfl, rfl, ham0, hk0, INV.start, rfl⟩ ?_
  rintro j t g ⟨i, hi, rfl, f, s, oe, ow, rfl, f0, f4, f6, f8, f9, f10, ha, hk, hI, hE⟩
  unfold sl6
  refine CodeR.seq (CodeR.seq (CodeR.region ?_))
  by_cases hlt : i < l.length
  · have hlt' : (i : Int) < l.length := by omega
    simp [OpR, xwant, bOf, lightK, lop, evl, flat, flat0, putT, thenR, List.range, List.range.loop, isLen, isMM, callAt, isApp, isFn, evls, Tryz.underlying26, sp_lss, sp_leq, sp_gtr, sp_geq, sp_eql, sp_neq, sp_add, sp_sub, sp_not, nilEq_int, f0, f4, f6, f8, f9, f10, hi3, hs3, hi9, hs9, Tryz.underlying3, Tryz.underlying9, Tryz.underlying44, Tryz.underlying47, aggD, hlt']
    refine CodeR.cond (b := true) (by simp [evl]) ?_
    simp only [if_true]
    refine CodeR.skip ?_
    simp only [thenR]
    refine CodeR.seq (CodeR.mono (Q := fun e t g => e = .normal ∧ AI l.length p c h'.nb h'.nb (h'.nb + 1 + 1) h' i (i + 1) t g) (CodeR.block ?_) ?_)
    · obtain ⟨x, hx⟩ : ∃ x, l[i]? = some x := ⟨_, List.getElem?_eq_getElem hlt⟩
      obtain ⟨b, off, rfl, hb, hr⟩ : ∃ b off, p = some ⟨b, off, none⟩ ∧ b < h'.nb ∧ g.read b off l.length = some (ints l) := by
        rcases he.keep hk with ⟨-, q⟩ | ⟨b, off, c', q1, q2, q3⟩
        · rw [q] at hlt; exact absurd hlt (by simp)
        · cases q1; exact ⟨b, off, rfl, q2, q3⟩
      have hrd := IsR.at_ hr hx
      refine CodeR.seq (CodeR.region ?_)
      simp [OpR, xwant, bOf, lightK, lop, evl, flat, flat0, putT, thenR, List.range, List.range.loop, isLen, isMM, callAt, isApp, isFn, evls, Tryz.underlying26, sp_lss, sp_leq, sp_gtr, sp_geq, sp_eql, sp_neq, sp_add, sp_sub, sp_not, nilEq_int, f0, f4, f6, f8, f9, f10, hi3, hs3, hi9, hs9, Tryz.underlying3, Tryz.underlying9, Tryz.underlying44, Tryz.underlying47, aggD, hlt', hrd]
      rw [lp_and1023 (a := x) rfl rfl]
      simp [OpR, xwant, bOf, lightK, lop, evl, flat, flat0, putT, thenR, List.range, List.range.loop, isLen, isMM, callAt, isApp, isFn, evls, Tryz.underlying26, sp_lss, sp_leq, sp_gtr, sp_geq, sp_eql, sp_neq, sp_add, sp_sub, sp_not, nilEq_int, f0, f4, f6, f8, f9, f10, hi3, hs3, hi9, hs9, Tryz.underlying3, Tryz.underlying9, Tryz.underlying44, Tryz.underlying47, aggD, hlt', hrd]
      rw [lp_rem6 (a := x % 1024) rfl rfl]
      simp [OpR, xwant, bOf, lightK, lop, evl, flat, flat0, putT, thenR, List.range, List.range.loop, isLen, isMM, callAt, isApp, isFn, evls, Tryz.underlying26, sp_lss, sp_leq, sp_gtr, sp_geq, sp_eql, sp_neq, sp_add, sp_sub, sp_not, nilEq_int, f0, f4, f6, f8, f9, f10, hi3, hs3, hi9, hs9, Tryz.underlying3, Tryz.underlying9, Tryz.underlying44, Tryz.underlying47, aggD, hlt', hrd]
      obtain ⟨k, hk6, hK⟩ : ∃ k : Nat, k < 6 ∧ (x % 1024).tmod 6 = k := by
        rw [Int.tmod_eq_emod_of_nonneg (Int.emod_nonneg _ (by decide))]
        exact ⟨(x % 1024 % 6).toNat, by omega, by omega⟩
      rw [hK]
      refine CodeR.seq (CodeR.seq (CodeR.region ?_))
      by_cases hk3 : k < 3
      · have hk3' : (k : Int) < 3 := by omega
        simp [OpR, xwant, bOf, lightK, lop, evl, flat, flat0, putT, thenR, List.range, List.range.loop, isLen, isMM, callAt, isApp, isFn, evls, Tryz.underlying26, sp_lss, sp_leq, sp_gtr, sp_geq, sp_eql, sp_neq, sp_add, sp_sub, sp_not, nilEq_int, f0, f4, f6, f8, f9, f10, hi3, hs3, hi9, hs9, Tryz.underlying3, Tryz.underlying9, Tryz.underlying44, Tryz.underlying47, aggD, hk3']
        refine CodeR.cond (b := true) (by simp [evl]) ?_
        simp only [if_true]
        have rN := nm_read ha.names hk3
        obtain ⟨pe, ce, hfe⟩ : ∃ p c, f 5 = .slice p (pre ++ s.E).length c := lst_slice ha.ev
        refine CodeR.seq (CodeR.drawn fx_any [0, 1, 3, 4, 5, 6, 2, 7, 8, 9, 10] [7, 10] [(h'.nb, k)] (by kernel_rfl) (ag_one rN (by simp [sameC])) ?_)
        simp [OpR, xwant, bOf, lightK, lop, evl, flat, flat0, putT, thenR, List.range, List.range.loop, isLen, isMM, callAt, isApp, isFn, evls, Tryz.underlying26, sp_lss, sp_leq, sp_gtr, sp_geq, sp_eql, sp_neq, sp_add, sp_sub, sp_not, nilEq_int, f0, f4, f6, f8, f9, f10, hi3, hs3, hi9, hs9, Tryz.underlying3, Tryz.underlying9, Tryz.underlying44, Tryz.underlying47, aggD, hk3', rN, evps, co_i, zero46, bldS2, evC_cells, evC_all, co_st]
        refine (dig_r (i := i) (by omega) g).mono ?_
        rintro u g1 ⟨⟨sx, rfl⟩, rfl⟩
        refine ⟨ag_one rN (by simp [sameC]), ?_⟩
        have hlen : (pre ++ s.E).length = i + 2 := by simp [pre]; omega
        obtain ⟨ve2, g2, oe2, happ, ha2, hk2⟩ := ha.evs [evS sx k] (by simp) (by simp [pre]; omega)
        have happ : app Tryz.prog (g1.push ⟨Go.Proofs.YteeanpfhngoobaaGreat.flat [evS sx k], 6, true⟩) 46 (f 5) (.slice (some ⟨g1.nb, 0, none⟩) 1 1) = some (ve2, g2) := happ
        try simp [OpR, xwant, bOf, lightK, lop, evl, flat, flat0, putT, thenR, List.range, List.range.loop, isLen, isMM, callAt, isApp, isFn, evls, Tryz.underlying26, sp_lss, sp_leq, sp_gtr, sp_geq, sp_eql, sp_neq, sp_add, sp_sub, sp_not, nilEq_int, f0, f4, f6, f8, f9, f10, hi3, hs3, hi9, hs9, Tryz.underlying3, Tryz.underlying9, Tryz.underlying44, Tryz.underlying47, aggD, hk3', rN, evps, co_i, zero46, bldS2, evC_cells, evC_all, co_st]
        rw [buildE1 (e1 := evS sx k) rfl]
        dsimp only
        refine ⟨ag_keep rN (nm_read (by rw [get_push_old _ (by have := get_lt ha.names; omega)]; exact ha.names) hk3) (by simp [sameC]), ?_⟩
        rw [hop_app (vx := f 5) (vy := .slice (some ⟨g1.nb, 0, none⟩) 1 1) Tryz.underlying22 Tryz.underlying22 rfl rfl, happ]
        dsimp only
        refine ⟨ag_keep rN (nm_read ha2.names hk3) (by simp [sameC]), ?_⟩
        try simp [OpR, xwant, lightK, lop, evl, putT]
        obtain ⟨g3, hw3, ha3, hk3m⟩ := ha2.st (k := k) (by rw [hI.l3]; omega) s.n
        refine CodeR.seq (CodeR.region ?_)
        simp [OpR, xwant, bOf, lightK, lop, evl, flat, flat0, putT, thenR, List.range, List.range.loop, isLen, isMM, callAt, isApp, isFn, evls, Tryz.underlying26, sp_lss, sp_leq, sp_gtr, sp_geq, sp_eql, sp_neq, sp_add, sp_sub, sp_not, nilEq_int, f0, f4, f6, f8, f9, f10, hi3, hs3, hi9, hs9, Tryz.underlying3, Tryz.underlying9, Tryz.underlying44, Tryz.underlying47, aggD, hk3']
        rw [hop_store (b := h'.nb + 1 + 1) (off := k) (v := .int .i64 s.n) (cs := [.int .i64 s.n]) hi3 rfl rfl rfl (by rw [hs3]; rfl) rfl hw3]
        try simp [OpR, xwant, lightK, lop, evl, putT]
        obtain ⟨vw4, g4, ow4, happ4, ha4, hk4⟩ := ha3.wt s.n (by rw [hI.wl]; omega)
        refine CodeR.seq (CodeR.region ?_)
        simp [OpR, xwant, bOf, lightK, lop, evl, flat, flat0, putT, thenR, List.range, List.range.loop, isLen, isMM, callAt, isApp, isFn, evls, Tryz.underlying26, sp_lss, sp_leq, sp_gtr, sp_geq, sp_eql, sp_neq, sp_add, sp_sub, sp_not, nilEq_int, f0, f4, f6, f8, f9, f10, hi3, hs3, hi9, hs9, Tryz.underlying3, Tryz.underlying9, Tryz.underlying44, Tryz.underlying47, aggD, hk3']
        rw [build1 (n := s.n) rfl]
        dsimp only
        rw [hop_app (vx := f 7) (vy := .slice (some ⟨g3.nb, 0, none⟩) 1 1) Tryz.underlying26 Tryz.underlying26 rfl rfl, happ4]
        try simp [OpR, xwant, lightK, lop, evl, putT]
        have hwn : IntKind.i64.wrap ((s.n : Int) + 1) = ((s.n + 1 : Nat) : Int) := by rw [IntWalk.i64_in _ (by have := hI.nE; omega)]; omega
        refine CodeR.seq (CodeR.region ?_)
        simp [OpR, xwant, bOf, lightK, lop, evl, flat, flat0, putT, thenR, List.range, List.range.loop, isLen, isMM, callAt, isApp, isFn, evls, Tryz.underlying26, sp_lss, sp_leq, sp_gtr, sp_geq, sp_eql, sp_neq, sp_add, sp_sub, sp_not, nilEq_int, f0, f4, f6, f8, f9, f10, hi3, hs3, hi9, hs9, Tryz.underlying3, Tryz.underlying9, Tryz.underlying44, Tryz.underlying47, aggD, hwn]
        refine CodeR.exit ?_
        simp only [thenR, blockR, if_true]
        have hst : stepA s k sx = ⟨s.E ++ [evS sx k], s.last.set k s.n, s.W ++ [(s.n : Int)], s.n + 1, s.bad⟩ := if_pos hk3
        have hI2 := hI.step hk6 sx (by omega)
        rw [hst] at hI2
        rw [List.append_assoc] at ha4
        exact ⟨by first | rfl | trivial, fun k => List.getD _ k undef, ⟨s.E ++ [evS sx k], s.last.set k s.n, s.W ++ [(s.n : Int)], s.n + 1, s.bad⟩, oe2, ow4, sl6_of _ rfl, rfl, rfl, rfl, rfl, rfl, rfl, ha4, hk.trans (hk2.trans (hk3m.trans hk4)), hI2, by simp [hE]⟩
      · have hk3' : ¬ (k : Int) < 3 := by omega
        obtain ⟨j, hj⟩ : ∃ j : Nat, j = k - 3 := ⟨_, rfl⟩
        have hj3 : j < 3 := by omega
        have hj3' : (j : Int) < 3 := by omega
        have hA : IntKind.i64.wrap ((k : Int) - 3) = (j : Int) := by rw [IntWalk.i64_in _ (by omega)]; omega
        simp [OpR, xwant, bOf, lightK, lop, evl, flat, flat0, putT, thenR, List.range, List.range.loop, isLen, isMM, callAt, isApp, isFn, evls, Tryz.underlying26, sp_lss, sp_leq, sp_gtr, sp_geq, sp_eql, sp_neq, sp_add, sp_sub, sp_not, nilEq_int, f0, f4, f6, f8, f9, f10, hi3, hs3, hi9, hs9, Tryz.underlying3, Tryz.underlying9, Tryz.underlying44, Tryz.underlying47, aggD, hk3']
        refine CodeR.cond (b := false) (by simp [evl]) ?_
        simp only [Bool.false_eq_true, if_false]
        refine CodeR.skip ?_
        simp only [thenR]
        have rN := nm_read ha.names hj3
        obtain ⟨pe, ce, hfe⟩ : ∃ p c, f 5 = .slice p (pre ++ s.E).length c := lst_slice ha.ev
        obtain ⟨ve2, g2, oe2, happ, ha2, hk2⟩ := ha.evs [evA j] (by simp) (by simp [pre]; omega)
        have happ : app Tryz.prog (g.push ⟨Go.Proofs.YteeanpfhngoobaaGreat.flat [evA j], 6, true⟩) 46 (f 5) (.slice (some ⟨g.nb, 0, none⟩) 1 1) = some (ve2, g2) := happ
        refine CodeR.seq (CodeR.region ?_)
        simp [OpR, xwant, bOf, lightK, lop, evl, flat, flat0, putT, thenR, List.range, List.range.loop, isLen, isMM, callAt, isApp, isFn, evls, Tryz.underlying26, sp_lss, sp_leq, sp_gtr, sp_geq, sp_eql, sp_neq, sp_add, sp_sub, sp_not, nilEq_int, f0, f4, f6, f8, f9, f10, hi3, hs3, hi9, hs9, Tryz.underlying3, Tryz.underlying9, Tryz.underlying44, Tryz.underlying47, aggD, hk3', hj3', hA, rN, evps, co_i, zero46, bldA2, evC_cells, evC_all, co_st]
        rw [buildE1 (e1 := evA j) rfl]
        dsimp only
        rw [hop_app (vx := f 5) (vy := .slice (some ⟨g.nb, 0, none⟩) 1 1) Tryz.underlying22 Tryz.underlying22 rfl rfl, happ]
        try simp [OpR, xwant, lightK, lop, evl, putT]
        have rL := la_read ha2.last (k := j) (by rw [hI.l3]; omega)
        obtain ⟨vw4, g4, ow4, happ4, ha4, hk4⟩ := ha2.wt (s.last.getD j 0) (by rw [hI.wl]; omega)
        have hst : ∀ t, stepA s k t = ⟨s.E ++ [evA j], s.last, s.W ++ [s.last.getD j 0], s.n, s.bad || s.last.getD j 0 == 0⟩ := fun t => by
          unfold stepA
          rw [if_neg hk3, ← hj]
        have hI2 := hI.step hk6 e0 (by omega)
        rw [hst] at hI2
        rw [List.append_assoc] at ha4
        generalize s.last.getD j 0 = y at rL happ4 ha4 hI2
        refine CodeR.seq (CodeR.region ?_)
        cases hbad : s.bad with
        | true =>
          rw [hbad] at f9 hI2
          simp [OpR, xwant, bOf, lightK, lop, evl, flat, flat0, putT, thenR, List.range, List.range.loop, isLen, isMM, callAt, isApp, isFn, evls, Tryz.underlying26, sp_lss, sp_leq, sp_gtr, sp_geq, sp_eql, sp_neq, sp_add, sp_sub, sp_not, nilEq_int, f0, f4, f6, f8, f9, f10, hi3, hs3, hi9, hs9, Tryz.underlying3, Tryz.underlying9, Tryz.underlying44, Tryz.underlying47, aggD, hk3', hj3', hA, rL]
          refine CodeR.region ?_
          simp [OpR, xwant, bOf, lightK, lop, evl, flat, flat0, putT, thenR, List.range, List.range.loop, isLen, isMM, callAt, isApp, isFn, evls, Tryz.underlying26, sp_lss, sp_leq, sp_gtr, sp_geq, sp_eql, sp_neq, sp_add, sp_sub, sp_not, nilEq_int, f0, f4, f6, f8, f9, f10, hi3, hs3, hi9, hs9, Tryz.underlying3, Tryz.underlying9, Tryz.underlying44, Tryz.underlying47, aggD, hk3', hj3', hA, rL]
          rw [build1 (n := y) rfl]
          dsimp only
          rw [hop_app (vx := f 7) (vy := .slice (some ⟨g2.nb, 0, none⟩) 1 1) Tryz.underlying26 Tryz.underlying26 rfl rfl, happ4]
          try simp [OpR, xwant, lightK, lop, evl, putT]
          exact ⟨by first | rfl | trivial, fun k => List.getD _ k undef, ⟨s.E ++ [evA j], s.last, s.W ++ [y], s.n, true || y == 0⟩, oe2, ow4, sl6_of _ rfl, rfl, rfl, rfl, rfl, rfl, rfl, ha4, hk.trans (hk2.trans hk4), hI2, by simp [hE]⟩
        | false =>
          rw [hbad] at f9 hI2
          simp [OpR, xwant, bOf, lightK, lop, evl, flat, flat0, putT, thenR, List.range, List.range.loop, isLen, isMM, callAt, isApp, isFn, evls, Tryz.underlying26, sp_lss, sp_leq, sp_gtr, sp_geq, sp_eql, sp_neq, sp_add, sp_sub, sp_not, nilEq_int, f0, f4, f6, f8, f9, f10, hi3, hs3, hi9, hs9, Tryz.underlying3, Tryz.underlying9, Tryz.underlying44, Tryz.underlying47, aggD, hk3', hj3', hA, rL]
          refine CodeR.region ?_
          simp [OpR, xwant, bOf, lightK, lop, evl, flat, flat0, putT, thenR, List.range, List.range.loop, isLen, isMM, callAt, isApp, isFn, evls, Tryz.underlying26, sp_lss, sp_leq, sp_gtr, sp_geq, sp_eql, sp_neq, sp_add, sp_sub, sp_not, nilEq_int, f0, f4, f6, f8, f9, f10, hi3, hs3, hi9, hs9, Tryz.underlying3, Tryz.underlying9, Tryz.underlying44, Tryz.underlying47, aggD, hk3', hj3', hA, rL]
          rw [build1 (n := y) rfl]
          dsimp only
          rw [hop_app (vx := f 7) (vy := .slice (some ⟨g2.nb, 0, none⟩) 1 1) Tryz.underlying26 Tryz.underlying26 rfl rfl, happ4]
          try simp [OpR, xwant, lightK, lop, evl, putT]
          exact ⟨by first | rfl | trivial, fun k => List.getD _ k undef, ⟨s.E ++ [evA j], s.last, s.W ++ [y], s.n, false || y == 0⟩, oe2, ow4, sl6_of _ rfl, rfl, rfl, rfl, rfl, rfl, rfl, ha4, hk.trans (hk2.trans hk4), hI2, by simp [hE]⟩
    · rintro e t g2 ⟨rfl, f', s', oe', ow', rfl, f0', f4', f6', f8', f9', f10', ha', hk', hI', hE'⟩
      simp only [thenR]
      unfold sl6
      have hwr : IntKind.i64.wrap ((i : Int) + 1) = ((i + 1 : Nat) : Int) := by rw [IntWalk.i64_in _ (by omega)]; omega
      refine CodeR.region ?_
      simp [OpR, xwant, bOf, lightK, lop, evl, flat, flat0, putT, thenR, List.range, List.range.loop, isLen, isMM, callAt, isApp, isFn, evls, Tryz.underlying26, sp_lss, sp_leq, sp_gtr, sp_geq, sp_eql, sp_neq, sp_add, sp_sub, sp_not, nilEq_int, f10', hwr]
      exact ⟨l.length - (i + 1), by omega, i + 1, by omega, rfl, fun k => List.getD _ k undef, s', oe', ow', sl6_of _ rfl, f0', f4', f6', f8', f9', rfl, ha', hk', hI', hE'⟩
  · have hlt' : ¬ (i : Int) < l.length := by omega
    simp [OpR, xwant, bOf, lightK, lop, evl, flat, flat0, putT, thenR, List.range, List.range.loop, isLen, isMM, callAt, isApp, isFn, evls, Tryz.underlying26, sp_lss, sp_leq, sp_gtr, sp_geq, sp_eql, sp_neq, sp_add, sp_sub, sp_not, nilEq_int, f0, f4, f6, f8, f9, f10, hi3, hs3, hi9, hs9, Tryz.underlying3, Tryz.underlying9, Tryz.underlying44, Tryz.underlying47, aggD, hlt']
    refine CodeR.cond (b := false) (by simp [evl]) ?_
    simp only [Bool.false_eq_true, if_false]
    refine CodeR.exit ?_
    simp only [thenR, blockR, if_true]
    obtain ⟨ve2, g2, oe2, happ, ha2, hk2⟩ := ha.evs [evK 4, evK 2] (by simp) (by simp [pre]; omega)
    have happ : app Tryz.prog (g.push ⟨Go.Proofs.YteeanpfhngoobaaGreat.flat [evK 4, evK 2], 6, true⟩) 46 (f 5) (.slice (some ⟨g.nb, 0, none⟩) 2 2) = some (ve2, g2) := happ
    refine CodeR.seq (CodeR.region ?_)
    simp [OpR, xwant, bOf, lightK, lop, evl, flat, flat0, putT, thenR, List.range, List.range.loop, isLen, isMM, callAt, isApp, isFn, evls, Tryz.underlying26, sp_lss, sp_leq, sp_gtr, sp_geq, sp_eql, sp_neq, sp_add, sp_sub, sp_not, nilEq_int, f0, f4, f6, f8, f9, f10, hi3, hs3, hi9, hs9, Tryz.underlying3, Tryz.underlying9, Tryz.underlying44, Tryz.underlying47, aggD, evps, co_i, zero46, bldK, bldA0, evC_cells, evC_all, co_st]
    rw [buildE2 (e1 := evK 4) (e2 := evK 2) rfl rfl]
    dsimp only
    rw [hop_app (vx := f 5) (vy := .slice (some ⟨g.nb, 0, none⟩) 2 2) Tryz.underlying22 Tryz.underlying22 rfl rfl, happ]
    try simp [OpR, xwant, lightK, lop, evl, putT]
    have hev : EvAt g2 g2.nb ve2 (evsA s) := Lst.evAt ha2.ev
    have hL3 : (evsA s).length ≤ 40 := by unfold evsA pre; simp; omega
    have hkA := hk.trans hk2
    refine CodeR.seq (CodeR.region ?_)
    simp [OpR, xwant, bOf, lightK, lop, evl, flat, flat0, putT, thenR, List.range, List.range.loop, isLen, isMM, callAt, isApp, isFn, evls, Tryz.underlying26, sp_lss, sp_leq, sp_gtr, sp_geq, sp_eql, sp_neq, sp_add, sp_sub, sp_not, nilEq_int, f0, f4, f6, f8, f9, f10, hi3, hs3, hi9, hs9, Tryz.underlying3, Tryz.underlying9, Tryz.underlying44, Tryz.underlying47, aggD, evps, co_i, zero46, bldK, bldA0, evC_cells, evC_all, co_st]
    refine (graph_r (depth := 9) (nodes := 99) hev (by omega)).mono ?_
    cases hbad : s.bad with
    | true =>
      rw [hI.wrong hbad]
      rintro u g3 ⟨hk3, ns, rs, rfl, hg3⟩
      dsimp only at hg3
      obtain ⟨pn, cn, rfl⟩ : ∃ p c, ns = .slice p 0 c := by obtain ⟨_, _, _, _, q, _⟩ := hg3; exact lst_slice q
      obtain ⟨pr, cr, rfl⟩ : ∃ p c, rs = .slice p 0 c := by obtain ⟨_, _, _, _, _, q, _⟩ := hg3; exact lst_slice q
      simp [OpR, xwant, lightK, lop, evl, flat, flat0, putT, thenR, noTup]
      rw [alloc28]
      dsimp only
      obtain ⟨g4, hw4, hk4, hgB, hn4⟩ := box28 (h := g3) (.slice pn 0 cn) (.slice pr 0 cr)
      rw [hop_store (b := g3.nb) (off := 0) (v := .agg #[.slice pn 0 cn, .slice pr 0 cr]) (cs := [.slice pn 0 cn, .slice pr 0 cr]) hi28 rfl rfl rfl (by rw [hs28]; rfl) rfl hw4]
      try simp [OpR, xwant, lightK, lop, evl, putT]
      have rB := read1 hgB (o := 0) (v := .slice pn 0 cn) rfl
      have hkB := hkA.trans ((hk3.trans (hk4.low hk3.1)).low hkA.1)
      refine CodeR.seq (CodeR.seq (CodeR.region ?_))
      simp [OpR, xwant, bOf, lightK, lop, evl, flat, flat0, putT, thenR, List.range, List.range.loop, isLen, isMM, callAt, isApp, isFn, evls, Tryz.underlying26, sp_lss, sp_leq, sp_gtr, sp_geq, sp_eql, sp_neq, sp_add, sp_sub, sp_not, nilEq_int, f0, f4, f6, f8, f9, f10, hi3, hs3, hi9, hs9, Tryz.underlying3, Tryz.underlying9, Tryz.underlying44, Tryz.underlying47, aggD, hbad, Tryz.underlying28, Tryz.underlying25, hi28, hs28, hi25, hs25, rB]
      refine CodeR.cond (b := true) (by simp [evl]) ?_
      simp only [if_true]
      refine CodeR.seq (CodeR.region ?_)
      simp [OpR, xwant, bOf, lightK, lop, evl, flat, flat0, putT, thenR, List.range, List.range.loop, isLen, isMM, callAt, isApp, isFn, evls, Tryz.underlying26, sp_lss, sp_leq, sp_gtr, sp_geq, sp_eql, sp_neq, sp_add, sp_sub, sp_not, nilEq_int, f0, f4, f6, f8, f9, f10, hi3, hs3, hi9, hs9, Tryz.underlying3, Tryz.underlying9, Tryz.underlying44, Tryz.underlying47, aggD, hbad, Tryz.underlying28, Tryz.underlying25, hi28, hs28, hi25, hs25, rB]
      refine (num_r 10 _).mono ?_
      rintro u h2 ⟨rfl, rfl⟩
      simp [OpR, xwant, bOf, lightK, lop, evl, flat, flat0, putT, thenR, List.range, List.range.loop, isLen, isMM, callAt, isApp, isFn, evls, Tryz.underlying26, sp_lss, sp_leq, sp_gtr, sp_geq, sp_eql, sp_neq, sp_add, sp_sub, sp_not, nilEq_int, f0, f4, f6, f8, f9, f10, hi3, hs3, hi9, hs9, Tryz.underlying3, Tryz.underlying9, Tryz.underlying44, Tryz.underlying47, aggD, hbad, Tryz.underlying28, Tryz.underlying25, hi28, hs28, hi25, hs25, rB]
      refine CodeR.ret ?_
      try simp only [thenR, blockR]
      exact hQ _ _ _ [.bool true] (.inr rfl) rfl (.inl ⟨_, rfl, rfl, hkB⟩)
    | false =>
      obtain ⟨Nt, hgr, hNt, hag⟩ := hI.fin hbad
      rw [hgr]
      rintro u g3 ⟨hk3, ns, rs, rfl, hg3⟩
      dsimp only at hg3
      obtain ⟨pn, cn, rfl⟩ : ∃ p c, ns = .slice p (root s.W :: Nt).length c := by obtain ⟨_, _, _, _, q, _⟩ := hg3; exact lst_slice q
      obtain ⟨pr, cr, rfl⟩ : ∃ p c, rs = .slice p ([0] : List Int).length c := by obtain ⟨_, _, _, _, _, q, _⟩ := hg3; exact lst_slice q
      simp [OpR, xwant, lightK, lop, evl, flat, flat0, putT, thenR, noTup]
      rw [alloc28]
      dsimp only
      obtain ⟨g4, hw4, hk4, hgB, hn4⟩ := box28 (h := g3) (.slice pn (Nt.length + 1) cn) (.slice pr 1 cr)
      rw [hop_store (b := g3.nb) (off := 0) (v := .agg #[.slice pn (Nt.length + 1) cn, .slice pr 1 cr]) (cs := [.slice pn (Nt.length + 1) cn, .slice pr 1 cr]) hi28 rfl rfl rfl (by rw [hs28]; rfl) rfl hw4]
      try simp [OpR, xwant, lightK, lop, evl, putT]
      have hk34 := hk3.trans (hk4.low hk3.1)
      have hkB := hkA.trans (hk34.low hkA.1)
      have ha4 := ha2.keep hk34
      refine CodeR.seq (CodeR.seq (CodeR.region ?_))
      simp [OpR, xwant, bOf, lightK, lop, evl, flat, flat0, putT, thenR, List.range, List.range.loop, isLen, isMM, callAt, isApp, isFn, evls, Tryz.underlying26, sp_lss, sp_leq, sp_gtr, sp_geq, sp_eql, sp_neq, sp_add, sp_sub, sp_not, nilEq_int, f0, f4, f6, f8, f9, f10, hi3, hs3, hi9, hs9, Tryz.underlying3, Tryz.underlying9, Tryz.underlying44, Tryz.underlying47, aggD, hbad]
      refine CodeR.cond (b := false) (by simp [evl]) ?_
      simp only [Bool.false_eq_true, if_false]
      refine CodeR.skip ?_
      simp only [thenR]
      obtain ⟨v5, g5, o5, happ5, hl5, hk5, ho5⟩ := app_self ha4.ev (by simp [pre]) (by simp [pre]; omega)
      obtain ⟨v6, g6, o6, happ6, hl6, ho6, he6⟩ := app_evs [evK 1, evA 0, evK 2] (by simp) hl5 (by simp [pre]; omega)
      have happ6 : app Tryz.prog (g5.push ⟨Go.Proofs.YteeanpfhngoobaaGreat.flat [evK 1, evA 0, evK 2], 6, true⟩) 46 v5 (.slice (some ⟨g5.nb, 0, none⟩) 3 3) = some (v6, g6) := happ6
      have hk6 : Keep g4.nb g5 g6 := ⟨he6.1, fun k hk => he6.2 k (by have := hk5.1; omega) fun hm => by have := ho5 k (by simpa using hm); omega⟩
      refine CodeR.seq (CodeR.region ?_)
      simp [OpR, xwant, bOf, lightK, lop, evl, flat, flat0, putT, thenR, List.range, List.range.loop, isLen, isMM, callAt, isApp, isFn, evls, Tryz.underlying26, sp_lss, sp_leq, sp_gtr, sp_geq, sp_eql, sp_neq, sp_add, sp_sub, sp_not, nilEq_int, f0, f4, f6, f8, f9, f10, hi3, hs3, hi9, hs9, Tryz.underlying3, Tryz.underlying9, Tryz.underlying44, Tryz.underlying47, aggD, evps, co_i, zero46, bldK, bldA0, evC_cells, evC_all, co_st]
      rw [hop_app (vx := .slice none 0 0) (vy := ve2) Tryz.underlying22 Tryz.underlying22 rfl rfl, happ5]
      try simp [OpR, xwant, bOf, lightK, lop, evl, flat, flat0, putT, thenR, List.range, List.range.loop, isLen, isMM, callAt, isApp, isFn, evls, Tryz.underlying26, sp_lss, sp_leq, sp_gtr, sp_geq, sp_eql, sp_neq, sp_add, sp_sub, sp_not, nilEq_int, f0, f4, f6, f8, f9, f10, hi3, hs3, hi9, hs9, Tryz.underlying3, Tryz.underlying9, Tryz.underlying44, Tryz.underlying47, aggD, evps, co_i, zero46, bldK, bldA0, evC_cells, evC_all, co_st]
      rw [buildE3 (e1 := evK 1) (e2 := evA 0) (e3 := evK 2) rfl rfl rfl]
      dsimp only
      rw [hop_app (vx := v5) (vy := .slice (some ⟨g5.nb, 0, none⟩) 3 3) Tryz.underlying22 Tryz.underlying22 rfl rfl, happ6]
      try simp [OpR, xwant, lightK, lop, evl, putT]
      have hk46 := hk5.trans hk6
      have hkC := hkB.trans (hk46.low hkB.1)
      have hev6 : EvAt g6 g6.nb v6 (againA s) := Lst.evAt hl6
      have hL6 : (againA s).length ≤ 50 := by unfold againA; simp; omega
      refine CodeR.seq (CodeR.region ?_)
      simp [OpR, xwant, bOf, lightK, lop, evl, flat, flat0, putT, thenR, List.range, List.range.loop, isLen, isMM, callAt, isApp, isFn, evls, Tryz.underlying26, sp_lss, sp_leq, sp_gtr, sp_geq, sp_eql, sp_neq, sp_add, sp_sub, sp_not, nilEq_int, f0, f4, f6, f8, f9, f10, hi3, hs3, hi9, hs9, Tryz.underlying3, Tryz.underlying9, Tryz.underlying44, Tryz.underlying47, aggD, evps, co_i, zero46, bldK, bldA0, evC_cells, evC_all, co_st]
      refine (graph_r (depth := 9) (nodes := 99) hev6 (by omega)).mono ?_
      generalize graphP (againA s) 9 99 = G at hag ⊢
      obtain ⟨e7, N7, R7⟩ := G
      have hag : e7 = 10 := hag
      subst hag
      rintro u g7 ⟨hk7, ns7, rs7, rfl, hg7⟩
      dsimp only at hg7
      obtain ⟨pn7, cn7, rfl⟩ : ∃ p c, ns7 = .slice p N7.length c := by obtain ⟨_, _, _, _, q, _⟩ := hg7; exact lst_slice q
      obtain ⟨pr7, cr7, rfl⟩ : ∃ p c, rs7 = .slice p R7.length c := by obtain ⟨_, _, _, _, _, q, _⟩ := hg7; exact lst_slice q
      simp [OpR, xwant, lightK, lop, evl, flat, flat0, putT, thenR, noTup]
      rw [alloc28]
      dsimp only
      obtain ⟨g8, hw8, hk8, hgC, hn8⟩ := box28 (h := g7) (.slice pn7 N7.length cn7) (.slice pr7 R7.length cr7)
      rw [hop_store (b := g7.nb) (off := 0) (v := .agg #[.slice pn7 N7.length cn7, .slice pr7 R7.length cr7]) (cs := [.slice pn7 N7.length cn7, .slice pr7 R7.length cr7]) hi28 rfl rfl rfl (by rw [hs28]; rfl) rfl hw8]
      try simp [OpR, xwant, lightK, lop, evl, putT]
      have hk68 := hk7.trans (hk8.low hk7.1)
      have hk48 := hk46.trans (hk68.low hk46.1)
      have hkD := hkC.trans (hk68.low hkC.1)
      have ha8 := ha4.keep hk48
      have hg8 := (hg3.keep hk4).keep hk48
      obtain ⟨bn, cn', v0, o0, hns, rK, hlk⟩ := hg8.kid0
      obtain ⟨rfl, rfl⟩ : pn = some ⟨bn, 0, none⟩ ∧ cn = cn' := by cases hns; exact ⟨rfl, rfl⟩
      have hgB8 := (hk48.2 g3.nb (by omega)).trans hgB
      have rB := read1 hgB8 (o := 0) (v := .slice (some ⟨bn, 0, none⟩) (Nt.length + 1) cn) rfl
      obtain ⟨p0, c0, hv0⟩ := lst_slice hlk
      obtain ⟨pw, cw, hvw⟩ := lst_slice ha8.want
      have hn1 : (((Nt.length + 1 : Nat) : Int) == (s.n : Int)) = true := by simp; omega
      have hn2 : (((Nt.length : Nat) : Int) + 1 == (s.n : Int)) = true := by simp; omega
      obtain ⟨r3, hr3⟩ : ∃ r : List Nat, r = [22, 23, 24] := ⟨_, rfl⟩
      obtain ⟨r2, hr2⟩ : ∃ r : List Nat, r = 18 :: 19 :: 20 :: 21 :: r3 := ⟨_, rfl⟩
      obtain ⟨r1, hr1⟩ : ∃ r : List Nat, r = 2 :: 3 :: 4 :: 5 :: 6 :: 7 :: 8 :: 9 :: 10 :: 11 :: 12 :: 13 :: 14 :: 15 :: 16 :: 17 :: r2 := ⟨_, rfl⟩
      refine CodeR.seq (CodeR.regionL (0 :: 1 :: r1) (by rw [hr1, hr2, hr3]; rfl) ?_)
      simp [OpR, xwant, bOf, lightK, lop, evl, flat, flat0, putT, thenR, List.range, List.range.loop, isLen, isMM, callAt, isApp, isFn, evls, Tryz.underlying26, sp_lss, sp_leq, sp_gtr, sp_geq, sp_eql, sp_neq, sp_add, sp_sub, sp_not, nilEq_int, f0, f4, f6, f8, f9, f10, hi3, hs3, hi9, hs9, Tryz.underlying3, Tryz.underlying9, Tryz.underlying44, Tryz.underlying47, aggD, hbad, Tryz.underlying28, Tryz.underlying25, Tryz.underlying51, hi28, hs28, hi25, hs25, hi51, hs51, hi26, hs26, rB, rK, hn1, hn2]
      refine (num_r 0 _).mono ?_
      rintro u h2 ⟨rfl, rfl⟩
      rw [hr1]
      simp [OpR, xwant, bOf, lightK, lop, evl, flat, flat0, putT, thenR, List.range, List.range.loop, isLen, isMM, callAt, isApp, isFn, evls, Tryz.underlying26, sp_lss, sp_leq, sp_gtr, sp_geq, sp_eql, sp_neq, sp_add, sp_sub, sp_not, nilEq_int, f0, f4, f6, f8, f9, f10, hi3, hs3, hi9, hs9, Tryz.underlying3, Tryz.underlying9, Tryz.underlying44, Tryz.underlying47, aggD, hbad, Tryz.underlying28, Tryz.underlying25, Tryz.underlying51, hi28, hs28, hi25, hs25, hi51, hs51, hi26, hs26, rB, rK, hn1, hn2]
      refine (ints_same hlk ha8.want (by rw [hI.wl]; omega)).mono ?_
      rintro u h2 ⟨rfl, rfl⟩
      rw [hr2]
      simp [OpR, xwant, bOf, lightK, lop, evl, flat, flat0, putT, thenR, List.range, List.range.loop, isLen, isMM, callAt, isApp, isFn, evls, Tryz.underlying26, sp_lss, sp_leq, sp_gtr, sp_geq, sp_eql, sp_neq, sp_add, sp_sub, sp_not, nilEq_int, f0, f4, f6, f8, f9, f10, hi3, hs3, hi9, hs9, Tryz.underlying3, Tryz.underlying9, Tryz.underlying44, Tryz.underlying47, aggD, hbad, Tryz.underlying28, Tryz.underlying25, Tryz.underlying51, hi28, hs28, hi25, hs25, hi51, hs51, hi26, hs26, rB, rK, hn1, hn2]
      refine (num_r 10 _).mono ?_
      rintro u h2 ⟨rfl, rfl⟩
      rw [hr3]
      simp [OpR, xwant, bOf, lightK, lop, evl, flat, flat0, putT, thenR, List.range, List.range.loop, isLen, isMM, callAt, isApp, isFn, evls, Tryz.underlying26, sp_lss, sp_leq, sp_gtr, sp_geq, sp_eql, sp_neq, sp_add, sp_sub, sp_not, nilEq_int, f0, f4, f6, f8, f9, f10, hi3, hs3, hi9, hs9, Tryz.underlying3, Tryz.underlying9, Tryz.underlying44, Tryz.underlying47, aggD, hbad, Tryz.underlying28, Tryz.underlying25, Tryz.underlying51, hi28, hs28, hi25, hs25, hi51, hs51, hi26, hs26, rB, rK, hn1, hn2]
      refine CodeR.ret ?_
      try simp only [thenR, blockR]
      exact hQ _ _ _ [.bool true] (.inr rfl) rfl (.inl ⟨_, rfl, rfl, hkD⟩)
end Go.Proofs.YteeanpfhngoobaaGreat.Xk
