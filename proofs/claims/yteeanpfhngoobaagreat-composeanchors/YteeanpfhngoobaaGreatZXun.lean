/- ComposeLimits: its walk. -/
import Derived.Test.YteeanpfhngoobaaGreatZXsp
import Derived.Test.YteeanpfhngoobaaGreatZXul
set_option linter.all false
set_option maxRecDepth 100000
namespace Go.Proofs.YteeanpfhngoobaaGreat.Xk
open Go.RowKit

theorem EvAt.es {h : HP} {n : Nat} {v : Value} {L : List Ev} {B : Nat} {w0 w : World} {m : Nat → MB} (he : EvAt h n v L) (hw : WR B w0 m h w) (hok : okT m h.nb v) : ∃ (q : Option Addr) (c : Nat), L.length ≤ c ∧ Es w q L ∧ cT m v = .slice q L.length c := by
  rcases he with ⟨rfl, rfl⟩ | ⟨b, off, c, rfl, hb, hr⟩
  · exact ⟨none, 0, Nat.zero_le _, .inl rfl, rfl⟩
  · obtain ⟨k1, k2, k3, k4⟩ : okT m h.nb (.slice (some ⟨b, off, none⟩) L.length c) := hok
    have hroom : L.length ≤ room (m b) off := by
      have k4' : (m b).sh + off + c * (m b).es ≤ (m b).sz := k4
      unfold room
      have k2' : 0 < (m b).es := k2
      have k3' : L.length ≤ c := k3
      have : c ≤ ((m b).sz - ((m b).sh + off)) / (m b).es := (Nat.le_div_iff_mul_le k2').2 (by omega)
      omega
    obtain ⟨r, hg, hl, hle, hcs⟩ := read_ok hr
    refine ⟨some (ca m b off), room (m b) off, hroom, es_of fun j u hj => ?_, rfl⟩
    rw [hcs] at hj
    have hjn : j < L.length * 6 := by
      have := (List.getElem?_eq_some_iff.1 hj).1
      simp only [List.length_take, List.length_drop] at this
      omega
    rw [List.getElem?_take_of_lt hjn, List.getElem?_drop] at hj
    have := hw.at_ b r hg hl (off + j) u hj
    rw [← Nat.add_assoc] at this
    rw [this]
    have hs : scal u = true := by
      have hm : u ∈ Go.Proofs.YteeanpfhngoobaaGreat.flat L := by
        rw [hcs]
        exact List.mem_of_getElem? (i := j) (by rw [List.getElem?_take_of_lt hjn, List.getElem?_drop]; exact hj)
      exact flat_scal L u hm
    cases u <;> first | rfl | (simp [scal] at hs)
theorem rdepth_r {h : HP} {n : Nat} {v : Value} {L : List Ev} (he : EvAt h n v L) (hL : L.length ≤ 1048576) : CallR Tryz.prog 15 [v] h (fun u h' => u = .int .i64 (rdepthP L) ∧ h' = h) := by
  refine ⟨⟨Tryz.f15, Tryz.func15, by kernel_rfl, by kernel_rfl⟩, fun B w0 m w hw hok => ?_⟩
  obtain ⟨q, c, e2, e3, e4⟩ := he.es hw (hok _ (List.mem_singleton.2 rfl))
  rw [show ([v].map (cT m)).toArray = #[.slice q L.length c] by simp [e4]]
  refine (rDepth_any q L L.length c w rfl (by omega) e2 e3).mono fun e w' hq => ?_
  exact ⟨m, .int .i64 (rdepthP L), h, Ext.refl, Nat.le_refl _, by rw [hq.1]; rfl, trivial, hw.on hq.2, rfl, rfl⟩
theorem rnodes_r {h : HP} {n : Nat} {v : Value} {L : List Ev} (he : EvAt h n v L) (hL : L.length ≤ 1048576) : CallR Tryz.prog 16 [v] h (fun u h' => u = .int .i64 (nodesP L : Nat) ∧ h' = h) := by
  refine ⟨⟨Tryz.f16, Tryz.func16, by kernel_rfl, by kernel_rfl⟩, fun B w0 m w hw hok => ?_⟩
  obtain ⟨q, c, e2, e3, e4⟩ := he.es hw (hok _ (List.mem_singleton.2 rfl))
  rw [show ([v].map (cT m)).toArray = #[.slice q L.length c] by simp [e4]]
  refine (rNodes_any q L c w (by omega) e3).mono fun e w' hq => ?_
  obtain ⟨q1, q2⟩ := hq
  subst q2
  exact ⟨m, .int .i64 (nodesP L : Nat), h, Ext.refl, Nat.le_refl _, by rw [q1]; rfl, trivial, hw, rfl, rfl⟩
/-- A graph that is put in a box of its own. -/
theorem box28 {h : HP} (a b : Value) :
    ∃ h1, (h.push ⟨[.slice none 0 0, .slice none 0 0], 1, true⟩).write h.nb 0 [a, b] = some h1 ∧ Keep h.nb h h1 ∧ h1.get h.nb = some ⟨[a, b], 1, true⟩ ∧ h1.nb = h.nb + 1 := by
  have hgz : (h.push ⟨[.slice none 0 0, .slice none 0 0], 1, true⟩).get h.nb = some ⟨[.slice none 0 0, .slice none 0 0], 1, true⟩ := get_push_new _
  refine ⟨(h.push ⟨[.slice none 0 0, .slice none 0 0], 1, true⟩).put h.nb ⟨[a, b], 1, true⟩, ?_, ⟨by show h.nb ≤ h.nb + 1; omega, fun k hk => by rw [get_put_ne hgz _ (by omega), get_push_old _ (by omega)]⟩, get_put_same hgz _, rfl⟩
  unfold HP.write
  rw [hgz]
  rfl
set_option maxHeartbeats 8000000 in
theorem limits_r {h : HP} {v : Value} {L : List Ev} {more : Int} (he : EvAt h h.nb v L) (hL : L.length ≤ 1954687338268) :
    CallR Tryz.prog 5 [v, .int .i64 more] h (fun u h' => u = .bool true ∧ Keep h.nb h h') := by
  obtain ⟨i28, hi28, hs28⟩ := size28
  refine CallR.of_body1 Tryz.func5 (by kernel_rfl) rfl fun Q hQ => ?_
  show CodeR _ _ ([v, .int .i64 more] ++ List.replicate 98 undef) h _
  simp only [List.replicate, List.cons_append, List.nil_append]
  refine CodeR.seq (CodeR.region ?_)
  simp [OpR, xwant, lightK, lop, evl, flat, flat0, putT, thenR, List.range, List.range.loop]
  refine CodeR.seq (CodeR.region ?_)
  simp [OpR, xwant, lightK, lop, evl, flat, flat0, putT, thenR, List.range, List.range.loop, isLen, isMM, callAt, isApp, isFn, evls]
  refine (alive_r h).mono ?_
  rintro u h' ⟨rfl, rfl⟩
  try simp [OpR, xwant, lightK, lop, evl, putT]
  refine CodeR.seq (CodeR.region ?_)
  simp [OpR, xwant, lightK, lop, evl, flat, flat0, putT, thenR, List.range, List.range.loop, isLen, isMM, callAt, isApp, isFn, evls]
  refine (big_r he (by unfold maxLen; omega)).mono ?_
  rintro u h1 ⟨⟨V, rfl, hV⟩, rfl⟩
  try simp [OpR, xwant, lightK, lop, evl, putT]
  obtain ⟨hcg, hR, hK⟩ := comp_graph L 200 20000
  have A := compose_r (depth := 200) (nodes := 20000) he hL
  rw [hcg] at A
  have hNl := graphP_len L 200 20000
  have hlim := fun (N : List Nd) (R : List Int) (hg : graphP L 200 20000 = (0, N, R)) => limits_plain hg
  generalize hG : graphP L 200 20000 = G at A hR hK hNl hlim
  obtain ⟨x, N, R⟩ := G
  dsimp only at A hR hK hNl hlim
  refine CodeR.seq (CodeR.region ?_)
  simp [OpR, xwant, lightK, lop, evl, flat, flat0, putT, thenR, List.range, List.range.loop, isLen, isMM, callAt, isApp, isFn, evls]
  refine A.mono ?_
  rintro u h2 ⟨hk2, ns, rs, rfl, hg2⟩
  obtain ⟨pn, cn, rfl⟩ : ∃ p c, ns = .slice p N.length c := by obtain ⟨_, _, _, _, q, _⟩ := hg2; exact lst_slice q
  obtain ⟨pr, cr, rfl⟩ : ∃ p c, rs = .slice p R.length c := by obtain ⟨_, _, _, _, _, q, _⟩ := hg2; exact lst_slice q
  simp [OpR, xwant, lightK, lop, evl, flat, flat0, putT, thenR, noTup]
  rw [alloc28]
  dsimp only
  obtain ⟨h3, hw, hk3, hgA, hn3⟩ := box28 (h := h2) (.slice pn N.length cn) (.slice pr R.length cr)
  rw [hop_store (b := h2.nb) (off := 0) (v := .agg #[.slice pn N.length cn, .slice pr R.length cr]) (cs := [.slice pn N.length cn, .slice pr R.length cr]) hi28 rfl rfl rfl (by rw [hs28]; rfl) rfl hw]
  dsimp only
  have hg3 := hg2.keep hk3
  have hkA := hk2.trans (hk3.low hk2.1)
  try simp [OpR, xwant, lightK, lop, evl, putT]
  refine CodeR.seq (CodeR.seq (CodeR.region ?_))
  cases V with
  | true =>
    simp [OpR, xwant, bOf, lightK, lop, evl, flat, flat0, putT, thenR, List.range, List.range.loop, isLen, isMM, callAt, isApp, isFn, evls, sp_lss, sp_leq, sp_gtr, sp_geq, sp_eql, sp_neq, sp_add, sp_sub, sp_not, nilEq_int]
    refine CodeR.cond (b := true) (by simp [evl]) ?_
    simp only [if_true]
    refine CodeR.seq (CodeR.region ?_)
    simp [OpR, xwant, lightK, lop, evl, flat, flat0, putT, thenR, List.range, List.range.loop]
    refine CodeR.ret ?_
    try simp only [thenR, blockR]
    exact hQ _ _ _ [.bool true] (.inr rfl) rfl (.inl ⟨_, rfl, rfl, hkA⟩)
  | false =>
    by_cases hx : x = 0
    case neg =>
      have hx1 : (x != 0) = true := by simp [hx]
      simp [OpR, xwant, bOf, lightK, lop, evl, flat, flat0, putT, thenR, List.range, List.range.loop, isLen, isMM, callAt, isApp, isFn, evls, sp_lss, sp_leq, sp_gtr, sp_geq, sp_eql, sp_neq, sp_add, sp_sub, sp_not, nilEq_int, hx1]
      refine CodeR.cond (b := true) (by simp [evl]) ?_
      simp only [if_true]
      refine CodeR.seq (CodeR.region ?_)
      simp [OpR, xwant, lightK, lop, evl, flat, flat0, putT, thenR, List.range, List.range.loop]
      refine CodeR.ret ?_
      try simp only [thenR, blockR]
      exact hQ _ _ _ [.bool true] (.inr rfl) rfl (.inl ⟨_, rfl, rfl, hkA⟩)
    subst hx
    by_cases hm : more < 0
    case pos =>
      simp [OpR, xwant, bOf, lightK, lop, evl, flat, flat0, putT, thenR, List.range, List.range.loop, isLen, isMM, callAt, isApp, isFn, evls, sp_lss, sp_leq, sp_gtr, sp_geq, sp_eql, sp_neq, sp_add, sp_sub, sp_not, nilEq_int, hm]
      refine CodeR.cond (b := true) (by simp [evl]) ?_
      simp only [if_true]
      refine CodeR.seq (CodeR.region ?_)
      simp [OpR, xwant, lightK, lop, evl, flat, flat0, putT, thenR, List.range, List.range.loop]
      refine CodeR.ret ?_
      try simp only [thenR, blockR]
      exact hQ _ _ _ [.bool true] (.inr rfl) rfl (.inl ⟨_, rfl, rfl, hkA⟩)
    by_cases hm2 : 1000 < more
    case pos =>
      simp [OpR, xwant, bOf, lightK, lop, evl, flat, flat0, putT, thenR, List.range, List.range.loop, isLen, isMM, callAt, isApp, isFn, evls, sp_lss, sp_leq, sp_gtr, sp_geq, sp_eql, sp_neq, sp_add, sp_sub, sp_not, nilEq_int, hm, hm2]
      refine CodeR.cond (b := true) (by simp [evl]) ?_
      simp only [if_true]
      refine CodeR.seq (CodeR.region ?_)
      simp [OpR, xwant, lightK, lop, evl, flat, flat0, putT, thenR, List.range, List.range.loop]
      refine CodeR.ret ?_
      try simp only [thenR, blockR]
      exact hQ _ _ _ [.bool true] (.inr rfl) rfl (.inl ⟨_, rfl, rfl, hkA⟩)
    simp [OpR, xwant, bOf, lightK, lop, evl, flat, flat0, putT, thenR, List.range, List.range.loop, isLen, isMM, callAt, isApp, isFn, evls, sp_lss, sp_leq, sp_gtr, sp_geq, sp_eql, sp_neq, sp_add, sp_sub, sp_not, nilEq_int, hm, hm2]
    refine CodeR.cond (b := false) (by simp [evl]) ?_
    simp only [Bool.false_eq_true, if_false]
    refine CodeR.skip ?_
    simp only [thenR]
    have hL3 := hV rfl
    obtain ⟨d0, d200, n20, pMore, pDeep, pMany⟩ := hlim N R rfl
    have he3 := (he.keep hkA).any hkA.1
    generalize hd : rdepthP L = d at d0 d200 pMore pDeep pMany
    generalize hn : nodesP L = n at n20 pMore pDeep pMany
    refine CodeR.seq (CodeR.region ?_)
    simp [OpR, xwant, bOf, lightK, lop, evl, flat, flat0, putT, thenR, List.range, List.range.loop, isLen, isMM, callAt, isApp, isFn, evls, sp_lss, sp_leq, sp_gtr, sp_geq, sp_eql, sp_neq, sp_add, sp_sub, sp_not, nilEq_int]
    refine (rdepth_r he3 (by omega)).mono ?_
    rintro u h' ⟨rfl, rfl⟩
    rw [hd]
    try simp [OpR, xwant, lightK, lop, evl, putT]
    refine CodeR.seq (CodeR.region ?_)
    simp [OpR, xwant, bOf, lightK, lop, evl, flat, flat0, putT, thenR, List.range, List.range.loop, isLen, isMM, callAt, isApp, isFn, evls, sp_lss, sp_leq, sp_gtr, sp_geq, sp_eql, sp_neq, sp_add, sp_sub, sp_not, nilEq_int]
    refine (rnodes_r he3 (by omega)).mono ?_
    rintro u h' ⟨rfl, rfl⟩
    rw [hn]
    try simp [OpR, xwant, lightK, lop, evl, putT]
    have w1 : IntKind.i64.wrap (d + more) = d + more := IntWalk.i64_in _ (by omega)
    have w2 : IntKind.i64.wrap ((n : Int) + more) = n + more := IntWalk.i64_in _ (by omega)
    have w3 : IntKind.i64.wrap (d - 1) = d - 1 := IntWalk.i64_in _ (by omega)
    have w4 : IntKind.i64.wrap ((n : Int) - 1) = n - 1 := IntWalk.i64_in _ (by omega)
    refine CodeR.seq (CodeR.region ?_)
    simp [OpR, xwant, bOf, lightK, lop, evl, flat, flat0, putT, thenR, List.range, List.range.loop, isLen, isMM, callAt, isApp, isFn, evls, sp_lss, sp_leq, sp_gtr, sp_geq, sp_eql, sp_neq, sp_add, sp_sub, sp_not, nilEq_int, w1, w2, w3, w4]
    refine (graph_r (depth := d + more) (nodes := n + more) he3 hL3).mono ?_
    rw [pMore more (by omega)]
    rintro u h4 ⟨hk4, ns2, rs2, rfl, hg4⟩
    dsimp only at hg4
    obtain ⟨pn2, cn2, rfl⟩ : ∃ p c, ns2 = .slice p N.length c := by obtain ⟨_, _, _, _, q, _⟩ := hg4; exact lst_slice q
    obtain ⟨pr2, cr2, rfl⟩ : ∃ p c, rs2 = .slice p R.length c := by obtain ⟨_, _, _, _, _, q, _⟩ := hg4; exact lst_slice q
    simp [OpR, xwant, lightK, lop, evl, flat, flat0, putT, thenR, noTup]
    rw [alloc28]
    dsimp only
    obtain ⟨h5, hw5, hk5, hgB, hn5⟩ := box28 (h := h4) (.slice pn2 N.length cn2) (.slice pr2 R.length cr2)
    rw [hop_store (b := h4.nb) (off := 0) (v := .agg #[.slice pn2 N.length cn2, .slice pr2 R.length cr2]) (cs := [.slice pn2 N.length cn2, .slice pr2 R.length cr2]) hi28 rfl rfl rfl (by rw [hs28]; rfl) rfl hw5]
    dsimp only
    have g1 := (hg3.keep hk4).keep hk5
    have g2 := hg4.keep hk5
    have hgA5 := (hk5.2 h2.nb (by have := hk4.1; omega)).trans ((hk4.2 h2.nb (by omega)).trans hgA)
    have hkB := hkA.trans ((hk4.low hkA.1).trans (hk5.low (by have := hk4.1; have := hkA.1; omega)))
    have he5 := (he.keep hkB).any hkB.1
    try simp [OpR, xwant, lightK, lop, evl, putT]
    refine CodeR.seq (CodeR.region ?_)
    simp [OpR, xwant, bOf, lightK, lop, evl, flat, flat0, putT, thenR, List.range, List.range.loop, isLen, isMM, callAt, isApp, isFn, evls, sp_lss, sp_leq, sp_gtr, sp_geq, sp_eql, sp_neq, sp_add, sp_sub, sp_not, nilEq_int, w1, w2, w3, w4]
    refine (graph_r (depth := d - 1) (nodes := n) he5 hL3).mono ?_
    generalize G8 : graphP L (d - 1) (n) = G81 at pDeep ⊢
    obtain ⟨e8, G8N, G8R⟩ := G81
    dsimp only at pDeep
    rintro u h6 ⟨hkh6, nsh6, rsh6, rfl, hgh6⟩
    dsimp only at hgh6
    obtain ⟨pnh6, cnh6, rfl⟩ : ∃ p c, nsh6 = .slice p G8N.length c := by obtain ⟨_, _, _, _, q, _⟩ := hgh6; exact lst_slice q
    obtain ⟨prh6, crh6, rfl⟩ : ∃ p c, rsh6 = .slice p G8R.length c := by obtain ⟨_, _, _, _, _, q, _⟩ := hgh6; exact lst_slice q
    simp [OpR, xwant, lightK, lop, evl, flat, flat0, putT, thenR, noTup]
    rw [alloc28]
    dsimp only
    obtain ⟨h7, hwh7, hkh7, hgh7, hnh7⟩ := box28 (h := h6) (.slice pnh6 G8N.length cnh6) (.slice prh6 G8R.length crh6)
    rw [hop_store (b := h6.nb) (off := 0) (v := .agg #[.slice pnh6 G8N.length cnh6, .slice prh6 G8R.length crh6]) (cs := [.slice pnh6 G8N.length cnh6, .slice prh6 G8R.length crh6]) hi28 rfl rfl rfl (by rw [hs28]; rfl) rfl hwh7]
    dsimp only
    have hkkh7 := hkh6.trans (hkh7.low hkh6.1)
    try simp [OpR, xwant, lightK, lop, evl, putT]
    have hkC := hkB.trans (hkkh7.low hkB.1)
    have he7 := (he.keep hkC).any hkC.1
    refine CodeR.seq (CodeR.region ?_)
    simp [OpR, xwant, bOf, lightK, lop, evl, flat, flat0, putT, thenR, List.range, List.range.loop, isLen, isMM, callAt, isApp, isFn, evls, sp_lss, sp_leq, sp_gtr, sp_geq, sp_eql, sp_neq, sp_add, sp_sub, sp_not, nilEq_int, w1, w2, w3, w4]
    refine (graph_r (depth := d) (nodes := (n : Int) - 1) he7 hL3).mono ?_
    generalize G9 : graphP L (d) ((n : Int) - 1) = G91 at pMany ⊢
    obtain ⟨e9, G9N, G9R⟩ := G91
    dsimp only at pMany
    rintro u h8 ⟨hkh8, nsh8, rsh8, rfl, hgh8⟩
    dsimp only at hgh8
    obtain ⟨pnh8, cnh8, rfl⟩ : ∃ p c, nsh8 = .slice p G9N.length c := by obtain ⟨_, _, _, _, q, _⟩ := hgh8; exact lst_slice q
    obtain ⟨prh8, crh8, rfl⟩ : ∃ p c, rsh8 = .slice p G9R.length c := by obtain ⟨_, _, _, _, _, q, _⟩ := hgh8; exact lst_slice q
    simp [OpR, xwant, lightK, lop, evl, flat, flat0, putT, thenR, noTup]
    rw [alloc28]
    dsimp only
    obtain ⟨h9, hwh9, hkh9, hgh9, hnh9⟩ := box28 (h := h8) (.slice pnh8 G9N.length cnh8) (.slice prh8 G9R.length crh8)
    rw [hop_store (b := h8.nb) (off := 0) (v := .agg #[.slice pnh8 G9N.length cnh8, .slice prh8 G9R.length crh8]) (cs := [.slice pnh8 G9N.length cnh8, .slice prh8 G9R.length crh8]) hi28 rfl rfl rfl (by rw [hs28]; rfl) rfl hwh9]
    dsimp only
    have hkkh9 := hkh8.trans (hkh9.low hkh8.1)
    try simp [OpR, xwant, lightK, lop, evl, putT]
    have hkD := hkC.trans (hkkh9.low hkC.1)
    have g1' := ((g1.keep hkkh7).keep hkkh9)
    have g2' := ((g2.keep hkkh7).keep hkkh9)
    have h57 := hkkh7.1
    have h79 := hkkh9.1
    have h45 := hk4.1
    have hA9 := (hkkh9.2 h2.nb (by omega)).trans ((hkkh7.2 h2.nb (by omega)).trans hgA5)
    have hB9 := (hkkh9.2 h4.nb (by omega)).trans ((hkkh7.2 h4.nb (by omega)).trans hgB)
    have qA : h9.read h2.nb 0 2 = some [.slice pn N.length cn, .slice pr R.length cr] := by
      unfold HP.read
      rw [hA9]
      rfl
    have qB : h9.read h4.nb 0 2 = some [.slice pn2 N.length cn2, .slice pr2 R.length cr2] := by
      unfold HP.read
      rw [hB9]
      rfl
    have hkid : ∀ y ∈ N, y.kids.length ≤ 5864062014805 := fun y hy => by have := hK y hy; omega
    obtain ⟨r4, hr4⟩ : ∃ r : List Nat, r = [23, 24, 25, 26] := ⟨_, rfl⟩
    obtain ⟨r3, hr3⟩ : ∃ r : List Nat, r = 14 :: 15 :: 16 :: 17 :: 18 :: 19 :: 20 :: 21 :: 22 :: r4 := ⟨_, rfl⟩
    obtain ⟨r2, hr2⟩ : ∃ r : List Nat, r = 7 :: 8 :: 9 :: 10 :: 11 :: 12 :: 13 :: r3 := ⟨_, rfl⟩
    obtain ⟨r1, hr1⟩ : ∃ r : List Nat, r = 2 :: 3 :: 4 :: 5 :: 6 :: r2 := ⟨_, rfl⟩
    refine CodeR.seq ?_
    by_cases hd0 : d = 0
    · have b1 : (d == 0) = true := by simp [hd0]
      by_cases hn0 : n = 0
      · have b2 : ((n : Int) == 0) = true := by simp [hn0]
        refine CodeR.regionL (0 :: 1 :: r1) (by rw [hr1, hr2, hr3, hr4]; rfl) ?_
        simp [OpR, xwant, bOf, lightK, lop, evl, flat, flat0, putT, thenR, List.range, List.range.loop, isLen, isMM, callAt, isApp, isFn, evls, sp_lss, sp_leq, sp_gtr, sp_geq, sp_eql, sp_neq, sp_add, sp_sub, sp_not, nilEq_int, Tryz.underlying28, hi28, hs28, aggD, qA, qB, b1, b2]
        refine (num_r 0 _).mono ?_
        rintro u h' ⟨rfl, rfl⟩
        rw [hr1]
        simp [OpR, xwant, bOf, lightK, lop, evl, flat, flat0, putT, thenR, List.range, List.range.loop, isLen, isMM, callAt, isApp, isFn, evls, sp_lss, sp_leq, sp_gtr, sp_geq, sp_eql, sp_neq, sp_add, sp_sub, sp_not, nilEq_int, Tryz.underlying28, hi28, hs28, aggD, qA, qB, b1, b2]
        refine (graph_same g2' g1' (by omega) (by omega) hkid).mono ?_
        rintro u h10 ⟨rfl, hk10⟩
        rw [hr2]
        simp [OpR, xwant, bOf, lightK, lop, evl, flat, flat0, putT, thenR, List.range, List.range.loop, isLen, isMM, callAt, isApp, isFn, evls, sp_lss, sp_leq, sp_gtr, sp_geq, sp_eql, sp_neq, sp_add, sp_sub, sp_not, nilEq_int, Tryz.underlying28, hi28, hs28, aggD, qA, qB, b1, b2]
        rw [hr3]
        simp [OpR, xwant, bOf, lightK, lop, evl, flat, flat0, putT, thenR, List.range, List.range.loop, isLen, isMM, callAt, isApp, isFn, evls, sp_lss, sp_leq, sp_gtr, sp_geq, sp_eql, sp_neq, sp_add, sp_sub, sp_not, nilEq_int, Tryz.underlying28, hi28, hs28, aggD, qA, qB, b1, b2]
        rw [hr4]
        simp [OpR, xwant, bOf, lightK, lop, evl, flat, flat0, putT, thenR, List.range, List.range.loop, isLen, isMM, callAt, isApp, isFn, evls, sp_lss, sp_leq, sp_gtr, sp_geq, sp_eql, sp_neq, sp_add, sp_sub, sp_not, nilEq_int, Tryz.underlying28, hi28, hs28, aggD, qA, qB, b1, b2]
        refine CodeR.ret ?_
        try simp only [thenR, blockR]
        exact hQ _ _ _ [.bool true] (.inr rfl) rfl (.inl ⟨_, rfl, rfl, hkD.trans (hk10.low hkD.1)⟩)
      · have b2 : ((n : Int) == 0) = false := by simp [hn0]
        have b3 : e9 = 9 := pMany hn0
        subst b3
        refine CodeR.regionL (0 :: 1 :: r1) (by rw [hr1, hr2, hr3, hr4]; rfl) ?_
        simp [OpR, xwant, bOf, lightK, lop, evl, flat, flat0, putT, thenR, List.range, List.range.loop, isLen, isMM, callAt, isApp, isFn, evls, sp_lss, sp_leq, sp_gtr, sp_geq, sp_eql, sp_neq, sp_add, sp_sub, sp_not, nilEq_int, Tryz.underlying28, hi28, hs28, aggD, qA, qB, b1, b2]
        refine (num_r 0 _).mono ?_
        rintro u h' ⟨rfl, rfl⟩
        rw [hr1]
        simp [OpR, xwant, bOf, lightK, lop, evl, flat, flat0, putT, thenR, List.range, List.range.loop, isLen, isMM, callAt, isApp, isFn, evls, sp_lss, sp_leq, sp_gtr, sp_geq, sp_eql, sp_neq, sp_add, sp_sub, sp_not, nilEq_int, Tryz.underlying28, hi28, hs28, aggD, qA, qB, b1, b2]
        refine (graph_same g2' g1' (by omega) (by omega) hkid).mono ?_
        rintro u h10 ⟨rfl, hk10⟩
        rw [hr2]
        simp [OpR, xwant, bOf, lightK, lop, evl, flat, flat0, putT, thenR, List.range, List.range.loop, isLen, isMM, callAt, isApp, isFn, evls, sp_lss, sp_leq, sp_gtr, sp_geq, sp_eql, sp_neq, sp_add, sp_sub, sp_not, nilEq_int, Tryz.underlying28, hi28, hs28, aggD, qA, qB, b1, b2]
        rw [hr3]
        simp [OpR, xwant, bOf, lightK, lop, evl, flat, flat0, putT, thenR, List.range, List.range.loop, isLen, isMM, callAt, isApp, isFn, evls, sp_lss, sp_leq, sp_gtr, sp_geq, sp_eql, sp_neq, sp_add, sp_sub, sp_not, nilEq_int, Tryz.underlying28, hi28, hs28, aggD, qA, qB, b1, b2]
        refine (num_r 9 _).mono ?_
        rintro u h' ⟨rfl, rfl⟩
        rw [hr4]
        simp [OpR, xwant, bOf, lightK, lop, evl, flat, flat0, putT, thenR, List.range, List.range.loop, isLen, isMM, callAt, isApp, isFn, evls, sp_lss, sp_leq, sp_gtr, sp_geq, sp_eql, sp_neq, sp_add, sp_sub, sp_not, nilEq_int, Tryz.underlying28, hi28, hs28, aggD, qA, qB, b1, b2]
        refine CodeR.ret ?_
        try simp only [thenR, blockR]
        exact hQ _ _ _ [.bool true] (.inr rfl) rfl (.inl ⟨_, rfl, rfl, hkD.trans (hk10.low hkD.1)⟩)
    · have b1 : (d == 0) = false := by simp [hd0]
      have b4 : e8 = 8 := pDeep hd0
      subst b4
      by_cases hn0 : n = 0
      · have b2 : ((n : Int) == 0) = true := by simp [hn0]
        refine CodeR.regionL (0 :: 1 :: r1) (by rw [hr1, hr2, hr3, hr4]; rfl) ?_
        simp [OpR, xwant, bOf, lightK, lop, evl, flat, flat0, putT, thenR, List.range, List.range.loop, isLen, isMM, callAt, isApp, isFn, evls, sp_lss, sp_leq, sp_gtr, sp_geq, sp_eql, sp_neq, sp_add, sp_sub, sp_not, nilEq_int, Tryz.underlying28, hi28, hs28, aggD, qA, qB, b1, b2]
        refine (num_r 0 _).mono ?_
        rintro u h' ⟨rfl, rfl⟩
        rw [hr1]
        simp [OpR, xwant, bOf, lightK, lop, evl, flat, flat0, putT, thenR, List.range, List.range.loop, isLen, isMM, callAt, isApp, isFn, evls, sp_lss, sp_leq, sp_gtr, sp_geq, sp_eql, sp_neq, sp_add, sp_sub, sp_not, nilEq_int, Tryz.underlying28, hi28, hs28, aggD, qA, qB, b1, b2]
        refine (graph_same g2' g1' (by omega) (by omega) hkid).mono ?_
        rintro u h10 ⟨rfl, hk10⟩
        rw [hr2]
        simp [OpR, xwant, bOf, lightK, lop, evl, flat, flat0, putT, thenR, List.range, List.range.loop, isLen, isMM, callAt, isApp, isFn, evls, sp_lss, sp_leq, sp_gtr, sp_geq, sp_eql, sp_neq, sp_add, sp_sub, sp_not, nilEq_int, Tryz.underlying28, hi28, hs28, aggD, qA, qB, b1, b2]
        refine (num_r 8 _).mono ?_
        rintro u h' ⟨rfl, rfl⟩
        rw [hr3]
        simp [OpR, xwant, bOf, lightK, lop, evl, flat, flat0, putT, thenR, List.range, List.range.loop, isLen, isMM, callAt, isApp, isFn, evls, sp_lss, sp_leq, sp_gtr, sp_geq, sp_eql, sp_neq, sp_add, sp_sub, sp_not, nilEq_int, Tryz.underlying28, hi28, hs28, aggD, qA, qB, b1, b2]
        rw [hr4]
        simp [OpR, xwant, bOf, lightK, lop, evl, flat, flat0, putT, thenR, List.range, List.range.loop, isLen, isMM, callAt, isApp, isFn, evls, sp_lss, sp_leq, sp_gtr, sp_geq, sp_eql, sp_neq, sp_add, sp_sub, sp_not, nilEq_int, Tryz.underlying28, hi28, hs28, aggD, qA, qB, b1, b2]
        refine CodeR.ret ?_
        try simp only [thenR, blockR]
        exact hQ _ _ _ [.bool true] (.inr rfl) rfl (.inl ⟨_, rfl, rfl, hkD.trans (hk10.low hkD.1)⟩)
      · have b2 : ((n : Int) == 0) = false := by simp [hn0]
        have b3 : e9 = 9 := pMany hn0
        subst b3
        refine CodeR.regionL (0 :: 1 :: r1) (by rw [hr1, hr2, hr3, hr4]; rfl) ?_
        simp [OpR, xwant, bOf, lightK, lop, evl, flat, flat0, putT, thenR, List.range, List.range.loop, isLen, isMM, callAt, isApp, isFn, evls, sp_lss, sp_leq, sp_gtr, sp_geq, sp_eql, sp_neq, sp_add, sp_sub, sp_not, nilEq_int, Tryz.underlying28, hi28, hs28, aggD, qA, qB, b1, b2]
        refine (num_r 0 _).mono ?_
        rintro u h' ⟨rfl, rfl⟩
        rw [hr1]
        simp [OpR, xwant, bOf, lightK, lop, evl, flat, flat0, putT, thenR, List.range, List.range.loop, isLen, isMM, callAt, isApp, isFn, evls, sp_lss, sp_leq, sp_gtr, sp_geq, sp_eql, sp_neq, sp_add, sp_sub, sp_not, nilEq_int, Tryz.underlying28, hi28, hs28, aggD, qA, qB, b1, b2]
        refine (graph_same g2' g1' (by omega) (by omega) hkid).mono ?_
        rintro u h10 ⟨rfl, hk10⟩
        rw [hr2]
        simp [OpR, xwant, bOf, lightK, lop, evl, flat, flat0, putT, thenR, List.range, List.range.loop, isLen, isMM, callAt, isApp, isFn, evls, sp_lss, sp_leq, sp_gtr, sp_geq, sp_eql, sp_neq, sp_add, sp_sub, sp_not, nilEq_int, Tryz.underlying28, hi28, hs28, aggD, qA, qB, b1, b2]
        refine (num_r 8 _).mono ?_
        rintro u h' ⟨rfl, rfl⟩
        rw [hr3]
        simp [OpR, xwant, bOf, lightK, lop, evl, flat, flat0, putT, thenR, List.range, List.range.loop, isLen, isMM, callAt, isApp, isFn, evls, sp_lss, sp_leq, sp_gtr, sp_geq, sp_eql, sp_neq, sp_add, sp_sub, sp_not, nilEq_int, Tryz.underlying28, hi28, hs28, aggD, qA, qB, b1, b2]
        refine (num_r 9 _).mono ?_
        rintro u h' ⟨rfl, rfl⟩
        rw [hr4]
        simp [OpR, xwant, bOf, lightK, lop, evl, flat, flat0, putT, thenR, List.range, List.range.loop, isLen, isMM, callAt, isApp, isFn, evls, sp_lss, sp_leq, sp_gtr, sp_geq, sp_eql, sp_neq, sp_add, sp_sub, sp_not, nilEq_int, Tryz.underlying28, hi28, hs28, aggD, qA, qB, b1, b2]
        refine CodeR.ret ?_
        try simp only [thenR, blockR]
        exact hQ _ _ _ [.bool true] (.inr rfl) rfl (.inl ⟨_, rfl, rfl, hkD.trans (hk10.low hkD.1)⟩)
theorem limits_full (w : World) (b o : Nat) (L : List Ev) (c : Nat) (hlm : L.length ≤ 1954687338268) (hcl : L.length ≤ c) (hb : b < w.heap.size) (hat : ∀ (i : Nat) (v : Value), (Go.Proofs.YteeanpfhngoobaaGreat.flat L)[i]? = some v → w.cell? ⟨b, o + i, none⟩ = some v) (more : Int) :
    Calls Tryz.prog 5 #[.slice (some ⟨b, o, none⟩) L.length c, .int .i64 more] w fun e w' => e = .returned (.bool true) ∧ Below w.heap.size w w' := by
  obtain ⟨m, h, hw, he, hok, hct⟩ := lay_events hcl hb hat
  have A := (limits_r (more := more) he hlm).2 w.heap.size w m w hw (fun u hu => by
    simp only [List.mem_cons, List.not_mem_nil, or_false] at hu
    rcases hu with rfl | rfl
    · exact hok
    · trivial)
  rw [show (([.slice (some ⟨0, 0, none⟩) L.length c, .int .i64 more] : List Value).map (cT m)).toArray = #[.slice (some ⟨b, o, none⟩) L.length c, .int .i64 more] by simp only [List.map_cons, List.map_nil, hct]; rfl] at A
  refine A.mono fun e w' ⟨m', u, h', e1, e2, e3, e4, e5, e6, e7⟩ => ?_
  subst e6
  exact ⟨e3, e5.bel⟩
theorem limits_none (w : World) (more : Int) : Calls Tryz.prog 5 #[.slice none 0 0, .int .i64 more] w fun e w' => e = .returned (.bool true) ∧ Below w.heap.size w w' := by
  have A := (limits_r (h := ⟨0, []⟩) (v := .slice none 0 0) (L := []) (more := more) (.inl ⟨rfl, rfl⟩) (by simp)).2 w.heap.size w _ w (WR.none w) (fun u hu => by
    simp only [List.mem_cons, List.not_mem_nil, or_false] at hu
    rcases hu with rfl | rfl
    · exact ⟨rfl, rfl⟩
    · trivial)
  refine A.mono fun e w' ⟨m', u, h', e1, e2, e3, e4, e5, e6, e7⟩ => ?_
  subst e6
  exact ⟨e3, e5.bel⟩
theorem limits_law (w : World) (q : Option Addr) (L : List Ev) (c : Nat) (hlm : L.length ≤ 1954687338268) (hcl : L.length ≤ c) (hE : Es w q L) (hq : (q = none ∧ L.length = 0 ∧ c = 0) ∨ ∃ b o, q = some ⟨b, o, none⟩ ∧ b < w.heap.size) (more : Int) :
    Calls Tryz.prog 5 #[.slice q L.length c, .int .i64 more] w fun e w' => e = .returned (.bool true) ∧ Below w.heap.size w w' := by
  rcases hq with ⟨rfl, h0, rfl⟩ | ⟨b, o, rfl, hb⟩
  · rw [h0]
    exact limits_none w more
  · refine limits_full w b o L c hlm hcl hb ?_ more
    rcases hE with rfl | ⟨b', o', e, h⟩
    · intro i v hv
      simp [Go.Proofs.YteeanpfhngoobaaGreat.flat] at hv
    · cases e
      exact es_flat h
end Go.Proofs.YteeanpfhngoobaaGreat.Xk
