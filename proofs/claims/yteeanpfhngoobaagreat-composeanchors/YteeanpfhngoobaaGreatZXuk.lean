/- ComposeGraphs: its walk. -/
import Derived.Test.YteeanpfhngoobaaGreatZXuj
import Derived.Test.YteeanpfhngoobaaGreatZXav
set_option linter.all false
set_option maxRecDepth 100000
namespace Go.Proofs.YteeanpfhngoobaaGreat.Xk
open Go.RowKit

theorem alive_r (h : HP) : CallR Tryz.prog 7 [] h (fun u h' => u = .bool true ∧ h' = h) :=
  ⟨⟨Tryz.f7, Tryz.func7, by kernel_rfl, by kernel_rfl⟩, fun B w0 m w hw hok => (alive_any w).mono fun e w' hq => ⟨m, .bool true, h, Ext.refl, Nat.le_refl _, hq.1, trivial, hw.on hq.2, rfl, rfl⟩⟩
theorem big_r {h : HP} {n : Nat} {v : Value} {L : List Ev} (he : EvAt h n v L) (hL : L.length ≤ maxLen) : CallR Tryz.prog 8 [v] h (fun u h' => (∃ V, u = .bool V ∧ (V = false → L.length ≤ 300)) ∧ h' = h) := by
  refine ⟨⟨Tryz.f8, Tryz.func8, by kernel_rfl, by kernel_rfl⟩, fun B w0 m w hw hok => ?_⟩
  have fin : ∀ (q : Option Addr) (c : Nat), Es w q L → cT m v = .slice q L.length c → Calls Tryz.prog 8 ([v].map (cT m)).toArray w fun e w' => ∃ m' u h', Ext m m' h.nb ∧ h.nb ≤ h'.nb ∧ e = .returned (cT m' u) ∧ okT m' h'.nb u ∧ WR B w0 m' h' w' ∧ ((∃ V, u = .bool V ∧ (V = false → L.length ≤ 300)) ∧ h' = h) := fun q c e3 e4 => by
    rw [show ([v].map (cT m)).toArray = #[.slice q L.length c] by simp [e4]]
    refine (Big_any q L c w hL e3).mono fun e w' ⟨⟨V, q1, q2⟩, q3⟩ => ?_
    subst q3
    exact ⟨m, .bool V, h, Ext.refl, Nat.le_refl _, q1, trivial, hw, ⟨V, rfl, q2⟩, rfl⟩
  rcases he with ⟨rfl, rfl⟩ | ⟨b, off, c, rfl, hb, hr⟩
  · exact fin none 0 (.inl rfl) rfl
  · obtain ⟨r, hg, hl, hle, hcs⟩ := read_ok hr
    refine fin (some (ca m b off)) (room (m b) off) (es_of fun j u hj => ?_) rfl
    rw [hcs] at hj
    have hjn : j < L.length * 6 := by
      have := (List.getElem?_eq_some_iff.1 hj).1
      simp only [List.length_take, List.length_drop] at this
      omega
    rw [List.getElem?_take_of_lt hjn, List.getElem?_drop] at hj
    have := hw.at_ b r hg hl (off + j) u hj
    rw [← Nat.add_assoc] at this
    rw [this]
    have hs : scal u = true := by
      have hm : u ∈ Go.Proofs.YteeanpfhngoobaaGreat.flat L := by
        rw [hcs]
        exact List.mem_of_getElem? (i := j) (by rw [List.getElem?_take_of_lt hjn, List.getElem?_drop]; exact hj)
      exact flat_scal L u hm
    cases u <;> first | rfl | (simp [scal] at hs)
theorem EvAt.any {h : HP} {n n' : Nat} {v : Value} {L : List Ev} (he : EvAt h n v L) (hn : n ≤ n') : EvAt h n' v L := by
  rcases he with he | ⟨b, off, c, h1, h2, h3⟩
  · exact .inl he
  · exact .inr ⟨b, off, c, h1, by omega, h3⟩
set_option maxHeartbeats 4000000 in
theorem graphs_r {h : HP} {v : Value} {L : List Ev} {depth nodes : Int} (he : EvAt h h.nb v L) (hL : L.length ≤ maxLen) :
    CallR Tryz.prog 3 [v, .int .i64 depth, .int .i64 nodes] h (fun u h' => u = .bool true ∧ Keep h.nb h h') := by
  obtain ⟨i28, hi28, hs28⟩ := size28
  refine CallR.of_body1 Tryz.func3 (by kernel_rfl) rfl fun Q hQ => ?_
  show CodeR _ _ ([v, .int .i64 depth, .int .i64 nodes] ++ List.replicate 42 undef) h _
  simp only [List.replicate, List.cons_append, List.nil_append]
  refine CodeR.seq (CodeR.region ?_)
  simp [OpR, xwant, lightK, lop, evl, flat, flat0, putT, thenR, List.range, List.range.loop]
  refine CodeR.seq (CodeR.region ?_)
  simp [OpR, xwant, lightK, lop, evl, flat, flat0, putT, thenR, List.range, List.range.loop, isLen, isMM, callAt, isApp, isFn, evls]
  refine (alive_r h).mono ?_
  rintro u h' ⟨rfl, rfl⟩
  try simp [OpR, xwant, lightK, lop, evl, putT]
  refine CodeR.seq (CodeR.region ?_)
  simp [OpR, xwant, lightK, lop, evl, flat, flat0, putT, thenR, List.range, List.range.loop, isLen, isMM, callAt, isApp, isFn, evls]
  refine (big_r he hL).mono ?_
  rintro u h1 ⟨⟨V, rfl, hV⟩, rfl⟩
  try simp [OpR, xwant, lightK, lop, evl, putT]
  refine CodeR.seq (CodeR.seq (CodeR.region ?_))
  simp [OpR, xwant, lightK, lop, evl, flat, flat0, putT, thenR, List.range, List.range.loop]
  rw [lp_not (z := true) rfl]
  simp [OpR, xwant, bOf, lightK, lop, evl, flat, flat0, putT, thenR]
  cases V with
  | true =>
    refine CodeR.cond (b := true) (by simp [evl]) ?_
    simp only [if_true]
    refine CodeR.seq (CodeR.region ?_)
    simp [OpR, xwant, lightK, lop, evl, flat, flat0, putT, thenR, List.range, List.range.loop]
    refine CodeR.ret ?_
    try simp only [thenR, blockR]
    exact hQ _ _ _ [.bool true] (.inr rfl) rfl (.inl ⟨_, rfl, rfl, Nat.le_refl _, fun _ _ => rfl⟩)
  | false =>
    have hL3 := hV rfl
    refine CodeR.cond (b := false) (by simp [evl]) ?_
    simp only [Bool.false_eq_true, if_false]
    refine CodeR.skip ?_
    simp only [thenR]
    obtain ⟨hcg, hR, hK⟩ := comp_graph L depth nodes
    refine CodeR.seq (CodeR.region ?_)
    simp [OpR, xwant, lightK, lop, evl, flat, flat0, putT, thenR, List.range, List.range.loop, isLen, isMM, callAt, isApp, isFn, evls]
    refine (graph_r he hL3).mono ?_
    rintro u h2 ⟨hk2, ns, rs, rfl, hg2⟩
    obtain ⟨pn, cn, rfl⟩ : ∃ p c, ns = .slice p (graphP L depth nodes).2.1.length c := by obtain ⟨_, _, _, _, q, _⟩ := hg2; exact lst_slice q
    obtain ⟨pr, cr, rfl⟩ : ∃ p c, rs = .slice p (graphP L depth nodes).2.2.length c := by obtain ⟨_, _, _, _, _, q, _⟩ := hg2; exact lst_slice q
    have hNl := graphP_len L depth nodes
    generalize hG : graphP L depth nodes = G at hg2 hR hK hNl ⊢
    obtain ⟨x, N, R⟩ := G
    dsimp only at hg2 hR hK hNl ⊢
    simp [OpR, xwant, lightK, lop, evl, flat, flat0, putT, thenR, noTup]
    rw [alloc28]
    dsimp only
    have hgz : (h2.push ⟨[.slice none 0 0, .slice none 0 0], 1, true⟩).get h2.nb = some ⟨[.slice none 0 0, .slice none 0 0], 1, true⟩ := get_push_new _
    have hw : (h2.push ⟨[.slice none 0 0, .slice none 0 0], 1, true⟩).write h2.nb 0 [.slice pn N.length cn, .slice pr R.length cr] = some ((h2.push ⟨[.slice none 0 0, .slice none 0 0], 1, true⟩).put h2.nb ⟨[.slice pn N.length cn, .slice pr R.length cr], 1, true⟩) := by
      unfold HP.write
      rw [hgz]
      rfl
    rw [hop_store (b := h2.nb) (off := 0) (v := .agg #[.slice pn N.length cn, .slice pr R.length cr]) (cs := [.slice pn N.length cn, .slice pr R.length cr]) hi28 rfl rfl rfl (by rw [hs28]; rfl) rfl hw]
    dsimp only
    have hk3 : Keep h2.nb h2 ((h2.push ⟨[.slice none 0 0, .slice none 0 0], 1, true⟩).put h2.nb ⟨[.slice pn N.length cn, .slice pr R.length cr], 1, true⟩) := ⟨by show h2.nb ≤ h2.nb + 1; omega, fun k hk => by rw [get_put_ne hgz _ (by omega), get_push_old _ (by omega)]⟩
    have hgA := get_put_same hgz ⟨[.slice pn N.length cn, .slice pr R.length cr], 1, true⟩
    have hnA : h2.nb < ((h2.push ⟨[.slice none 0 0, .slice none 0 0], 1, true⟩).put h2.nb ⟨[.slice pn N.length cn, .slice pr R.length cr], 1, true⟩).nb := by show h2.nb < h2.nb + 1; omega
    generalize (h2.push ⟨[.slice none 0 0, .slice none 0 0], 1, true⟩).put h2.nb ⟨[.slice pn N.length cn, .slice pr R.length cr], 1, true⟩ = h3 at hk3 hgA hnA ⊢
    have hkA := hk2.trans (hk3.low hk2.1)
    have he3 := (he.keep hkA).any hkA.1
    have A := compose_r (depth := depth) (nodes := nodes) he3 (by omega)
    rw [hcg, hG] at A
    try simp [OpR, xwant, lightK, lop, evl, putT]
    refine CodeR.seq (CodeR.region ?_)
    simp [OpR, xwant, lightK, lop, evl, flat, flat0, putT, thenR, List.range, List.range.loop, isLen, isMM, callAt, isApp, isFn, evls]
    refine A.mono ?_
    rintro u h4 ⟨hk4, ns2, rs2, rfl, hg4⟩
    obtain ⟨pn2, cn2, rfl⟩ : ∃ p c, ns2 = .slice p N.length c := by obtain ⟨_, _, _, _, q, _⟩ := hg4; exact lst_slice q
    obtain ⟨pr2, cr2, rfl⟩ : ∃ p c, rs2 = .slice p R.length c := by obtain ⟨_, _, _, _, _, q, _⟩ := hg4; exact lst_slice q
    simp [OpR, xwant, lightK, lop, evl, flat, flat0, putT, thenR, noTup]
    rw [alloc28]
    dsimp only
    have hgz4 : (h4.push ⟨[.slice none 0 0, .slice none 0 0], 1, true⟩).get h4.nb = some ⟨[.slice none 0 0, .slice none 0 0], 1, true⟩ := get_push_new _
    have hw4 : (h4.push ⟨[.slice none 0 0, .slice none 0 0], 1, true⟩).write h4.nb 0 [.slice pn2 N.length cn2, .slice pr2 R.length cr2] = some ((h4.push ⟨[.slice none 0 0, .slice none 0 0], 1, true⟩).put h4.nb ⟨[.slice pn2 N.length cn2, .slice pr2 R.length cr2], 1, true⟩) := by
      unfold HP.write
      rw [hgz4]
      rfl
    rw [hop_store (b := h4.nb) (off := 0) (v := .agg #[.slice pn2 N.length cn2, .slice pr2 R.length cr2]) (cs := [.slice pn2 N.length cn2, .slice pr2 R.length cr2]) hi28 rfl rfl rfl (by rw [hs28]; rfl) rfl hw4]
    dsimp only
    have hk5 : Keep h4.nb h4 ((h4.push ⟨[.slice none 0 0, .slice none 0 0], 1, true⟩).put h4.nb ⟨[.slice pn2 N.length cn2, .slice pr2 R.length cr2], 1, true⟩) := ⟨by show h4.nb ≤ h4.nb + 1; omega, fun k hk => by rw [get_put_ne hgz4 _ (by omega), get_push_old _ (by omega)]⟩
    have hgB := get_put_same hgz4 ⟨[.slice pn2 N.length cn2, .slice pr2 R.length cr2], 1, true⟩
    generalize (h4.push ⟨[.slice none 0 0, .slice none 0 0], 1, true⟩).put h4.nb ⟨[.slice pn2 N.length cn2, .slice pr2 R.length cr2], 1, true⟩ = h5 at hk5 hgB ⊢
    have hgA5 := (hk5.2 h2.nb (by have := hk4.1; omega)).trans ((hk4.2 h2.nb hnA).trans hgA)
    have g1 := ((hg2.keep hk3).keep hk4).keep hk5
    have g2 := hg4.keep hk5
    have hkB := hkA.trans ((hk4.low hkA.1).trans (hk5.low (by have := hk4.1; have := hkA.1; omega)))
    have qA : h5.read h2.nb 0 2 = some [.slice pn N.length cn, .slice pr R.length cr] := by
      unfold HP.read
      rw [hgA5]
      rfl
    have qB : h5.read h4.nb 0 2 = some [.slice pn2 N.length cn2, .slice pr2 R.length cr2] := by
      unfold HP.read
      rw [hgB]
      rfl
    try simp [OpR, xwant, lightK, lop, evl, putT]
    refine CodeR.seq (CodeR.region ?_)
    simp [OpR, xwant, lightK, lop, evl, flat, flat0, putT, thenR, List.range, List.range.loop, isLen, isMM, callAt, isApp, isFn, evls]
    refine (num_r x h5).mono ?_
    rintro u h6 ⟨rfl, rfl⟩
    try simp [OpR, xwant, lightK, lop, evl, putT]
    simp only [nilEq_int]
    rw [lp_eql (k := .i64) (a := x) (b := x) rfl rfl]
    simp [OpR, xwant, bOf, lightK, lop, evl, flat, flat0, putT, thenR, Tryz.underlying28, hi28, hs28, aggD, qA, qB, isLen, isMM, callAt, isApp, isFn, evls]
    refine (graph_same g1 g2 (by omega) (by omega) (fun y hy => by have := hK y hy; omega)).mono ?_
    rintro u h7 ⟨rfl, hk7⟩
    try simp [OpR, xwant, bOf, lightK, lop, evl, flat, flat0, putT, thenR]
    refine CodeR.ret ?_
    try simp only [thenR, blockR]
    exact hQ _ _ _ [.bool true] (.inr rfl) rfl (.inl ⟨_, rfl, rfl, hkB.trans (hk7.low hkB.1)⟩)
end Go.Proofs.YteeanpfhngoobaaGreat.Xk
