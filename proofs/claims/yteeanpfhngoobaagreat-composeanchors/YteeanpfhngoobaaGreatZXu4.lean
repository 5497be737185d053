/- add: its walk. -/
import Derived.Test.YteeanpfhngoobaaGreatZXu3
set_option linter.all false
set_option maxRecDepth 100000
namespace Go.Proofs.YteeanpfhngoobaaGreat.Xk
open Go.RowKit

def addP (N : List Nd) (R : List Int) (O : List Nat) (T : List Value) (K : Int) (nd : Nd) (an : ByteArray) : Option (List Nd × List Int × List Value) :=
  if (N.length : Int) = K then none
  else some ((putN (N ++ [nd]) R O N.length).1, (putN (N ++ [nd]) R O N.length).2, if an.toList == [] then T else mset an (.int .i64 N.length) T)
theorem lst_slice {h : HP} {sz n : Nat} {v : Value} {cs : List Value} {own : Option Nat} (hl : Lst h sz v cs n own) : ∃ p c, v = .slice p n c := by
  rcases hl.2 with ⟨rfl, rfl, -⟩ | ⟨b, c, r, rfl, -⟩
  · exact ⟨_, _, rfl⟩
  · exact ⟨_, _, rfl⟩
theorem read_else {h h' : HP} {l : List Nat} {b o k : Nat} {cs : List Value} (he : Else h h' l) (hb : b ∉ l) (hr : h.read b o k = some cs) : h'.read b o k = some cs := by
  obtain ⟨r, hg, -⟩ := read_ok hr
  unfold HP.read at hr ⊢
  rw [he.2 b (get_lt hg) hb]
  exact hr
theorem ag_else {h h' : HP} {D0 : List (Nat × Nat)} {l : List Nat} (he : Else h h' l) (hD : ∀ p ∈ D0, p.1 ∉ l ∧ ∃ v, h.read p.1 p.2 1 = some [v] ∧ sameC v v = true) : AG D0 h h' := fun p hp => by
  obtain ⟨hb, v, hr, hs⟩ := hD p hp
  unfold sameAt
  rw [hr, read_else he hb hr]
  exact hs
theorem Bd.node {N : List Nd} {R : List Int} {O : List Nat} {i : Nat} (hb : Bd N R O i) {x : Nd} (hx : x.kids = []) : Bd (N ++ [x]) R O (i + 1) := by
  refine ⟨by have := hb.r; omega, fun y hy => ?_, by have := hb.o; omega, by have := hb.n; simp; omega, fun t ht => by have := hb.t t ht; simp; omega⟩
  rcases List.mem_append.1 hy with hy | hy
  · have := hb.k y hy; omega
  · rw [List.mem_singleton.1 hy, hx]; simp
set_option maxHeartbeats 2000000 in
theorem add_r {h : HP} {M n : Nat} {N : List Nd} {R : List Int} {O : List Nat} {T : List Value} {D K : Int} {i : Nat} (hs : MS h M n N R O T D K) (hb : Bd N R O i) (hi1 : i + 2 ≤ 1048576) (nd : Nd) (hnd : nd.kids = []) (an : ByteArray) :
    CallR Tryz.prog 37 [.pointer (some ⟨M, 0, none⟩), .agg (ndCells nd).toArray, .string an] h (fun v h' => Keep n h h' ∧
      match addP N R O T K nd an with
      | none => v = .int .i64 9
      | some (N', R', T') => v = .int .i64 0 ∧ MS h' M n N' R' O T' D K) := by
  obtain ⟨hlt, ns, rs, os, mp, on, r, oo, kv, oks, hk0, hl⟩ := hs
  have hlt0 := hk0.lt
  have hk := hk0.else (h' := h.push ⟨ndCells nd, 1, true⟩) (l := []) ⟨by show h.nb ≤ h.nb + 1; omega, fun k hk _ => get_push_old _ (by omega)⟩ (fun _ _ hm => by cases hm)
  have hgb : (h.push ⟨ndCells nd, 1, true⟩).get h.nb = some ⟨ndCells nd, 1, true⟩ := get_push_new _
  have hkeep : Keep n h (h.push ⟨ndCells nd, 1, true⟩) := ⟨by show h.nb ≤ h.nb + 1; omega, fun k hk => get_push_old _ (by omega)⟩
  obtain ⟨h1, hh1⟩ : ∃ h1, h.push ⟨ndCells nd, 1, true⟩ = h1 := ⟨_, rfl⟩
  have hnb : h1.nb = h.nb + 1 := by rw [← hh1]; rfl
  rw [hh1] at hk hgb hkeep
  have hh2 : h.push ⟨[.int .i64 nd.k, .string nd.tg, .string nd.tx, .slice none 0 0, .bool nd.pl], 1, true⟩ = h1 := hh1
  have hg := hk.cells
  have hrd := read1 hg (o := 0) (v := ns) rfl
  have hrK := read1 hg (o := 5) (v := .int .i64 K) rfl
  obtain ⟨p, c, hsl⟩ := lst_slice hk.nodes
  subst hsl
  obtain ⟨i28, hi28, hs28⟩ := size28
  obtain ⟨i25, hi25, hs25⟩ := size25
  obtain ⟨i51, hi51, hs51⟩ := size51k
  obtain ⟨i3, hi3, hs3, hz3, hb3⟩ := int3
  refine CallR.of_body1 Tryz.func37 (by kernel_rfl) rfl fun Q hQ => ?_
  show CodeR _ _ ([.pointer (some ⟨M, 0, none⟩), .agg (ndCells nd).toArray, .string an] ++ List.replicate 40 undef) h _
  simp only [List.replicate, List.cons_append, List.nil_append]
  refine CodeR.seq (CodeR.region ?_)
  simp [OpR, xwant, lightK, lop, evl, flat, flat0, putT, thenR, List.range, List.range.loop, hop, callAt, cellsOf, isCell, ndCells]
  rw [hh2]
  refine CodeR.seq (CodeR.region ?_)
  simp [OpR, xwant, lightK, lop, evl, flat, flat0, putT, thenR, List.range, List.range.loop, Tryz.underlying60, Tryz.underlying28, Tryz.underlying25, hi28, hs28, hi25, hs25, aggD, hrd, isLen, isMM, callAt, isApp, isFn, evls]
  refine CodeR.seq (CodeR.seq (CodeR.region ?_))
  simp [OpR, xwant, lightK, lop, evl, flat, flat0, putT, thenR, List.range, List.range.loop, Tryz.underlying60, Tryz.underlying3, hi3, hs3, aggD, hrK, isLen, isMM, callAt, isApp, isFn, evls]
  simp only [nilEq_int]
  rw [lp_eql (k := .i64) (a := (N.length : Nat)) (b := K) rfl rfl]
  simp [OpR]
  by_cases hK : (N.length : Int) = K
  · refine CodeR.cond (b := true) (by simp [evl, hK]) ?_
    simp only [if_true]
    refine CodeR.seq (CodeR.region ?_)
    simp [OpR, xwant, lightK, lop, evl, flat, flat0, putT, thenR, List.range, List.range.loop]
    refine CodeR.ret ?_
    try simp only [thenR]
    refine hQ _ _ _ [.int .i64 9] (.inr rfl) rfl (.inl ⟨_, rfl, hkeep, ?_⟩)
    unfold addP
    rw [if_pos hK]
  · refine CodeR.cond (b := false) (by simp [evl, hK]) ?_
    simp only [Bool.false_eq_true, if_false]
    refine CodeR.skip ?_
    simp only [thenR]
    have hbn := hb.n
    obtain ⟨ns', h2, on', happ, hl2, hor, he, hisc, hcv⟩ := app_node nd hk.nodes (by omega)
    have hMn : M ∉ on.toList := fun hm => (List.nodup_cons.1 hk.apart).1 (by simp at hm ⊢; simp [hm])
    have hxn : h.nb ∉ on.toList := fun hm => by
      have := hlt0 h.nb (by unfold ownL; simp at hm ⊢; simp [hm])
      omega
    have hrb : h1.read h.nb 0 5 = some (ndCells nd) := by
      unfold HP.read
      rw [hgb]
      rfl
    have hD : ∀ p ∈ [(M, 0), (h.nb, 0), (h.nb, 1), (h.nb, 2), (h.nb, 3), (h.nb, 4)], p.1 ∉ on.toList ∧ ∃ v, h1.read p.1 p.2 1 = some [v] ∧ sameC v v = true := fun p hp => by
      have hb : ∀ j v, (ndCells nd)[j]? = some v → h1.read h.nb j 1 = some [v] := fun j v hv => read1 hgb hv
      simp only [List.mem_cons, List.not_mem_nil, or_false] at hp
      rcases hp with rfl | rfl | rfl | rfl | rfl | rfl
      · exact ⟨hMn, _, hrd, sameC_slice⟩
      · exact ⟨hxn, _, hb 0 _ rfl, by simp [sameC]⟩
      · exact ⟨hxn, _, hb 1 _ rfl, by simp [sameC]⟩
      · exact ⟨hxn, _, hb 2 _ rfl, by simp [sameC]⟩
      · exact ⟨hxn, _, hb 3 _ rfl, by simp [sameC]⟩
      · exact ⟨hxn, _, hb 4 _ rfl, by simp [sameC]⟩
    have hpe : Else h1 (h1.push ⟨ndCells nd, 5, true⟩) [] := ⟨by show h1.nb ≤ h1.nb + 1; omega, fun k hk _ => get_push_old _ (by omega)⟩
    have ag0 : AG [(M, 0), (h.nb, 0), (h.nb, 1), (h.nb, 2), (h.nb, 3), (h.nb, 4)] h1 h1 := ag_else (l := []) ⟨Nat.le_refl _, fun _ _ _ => rfl⟩ (fun p hp => ⟨by simp, (hD p hp).2⟩)
    have ag1 : AG [(M, 0), (h.nb, 0), (h.nb, 1), (h.nb, 2), (h.nb, 3), (h.nb, 4)] h1 (h1.push ⟨ndCells nd, 5, true⟩) := ag_else hpe (fun p hp => ⟨by simp, (hD p hp).2⟩)
    have ag2 : AG [(M, 0), (h.nb, 0), (h.nb, 1), (h.nb, 2), (h.nb, 3), (h.nb, 4)] h1 h2 := ag_else he hD
    refine CodeR.seq (CodeR.drawn fx_any (List.range 13) [12] [(M, 0), (h.nb, 0), (h.nb, 1), (h.nb, 2), (h.nb, 3), (h.nb, 4)] (by kernel_rfl) ag0 ?_)
    simp [OpR, xwant, lightK, lop, evl, flat, flat0, putT, thenR, List.range, List.range.loop, Tryz.underlying60, Tryz.underlying28, Tryz.underlying25, Tryz.underlying51, hi28, hs28, hi25, hs25, hi51, hs51, aggD, hrd, hrb, isLen, isMM, callAt, isApp, isFn, evls]
    refine ⟨fun a b hm => ?_, ?_⟩
    · simp [rng, List.range, List.range.loop] at hm
      rcases hm with ⟨rfl, rfl⟩ | ⟨rfl, rfl⟩ | ⟨rfl, rfl⟩ | ⟨rfl, rfl⟩ | ⟨rfl, rfl⟩ <;> simp
    have hMb : ∀ b, on' = some b → b ≠ M := fun b hb hm => by
      subst hm
      rcases hor with rfl | ⟨c, rfl, hc⟩
      · exact hMn (by simp [hb])
      · cases hb
        have := get_lt hg
        omega
    have hg2 : h2.get M = some ⟨[.slice p N.length c, rs, os, .map mp, .int .i64 D, .int .i64 K], 1, true⟩ := (he.2 M (get_lt hg) hMn).trans hg
    have hwr : h2.write M 0 [ns'] = some (h2.put M ⟨[ns', rs, os, .map mp, .int .i64 D, .int .i64 K], 1, true⟩) := write1 hg2 (by simp) ns'
    have hE : Else h1 (h2.put M ⟨[ns', rs, os, .map mp, .int .i64 D, .int .i64 K], 1, true⟩) (M :: on.toList) := ⟨he.1, fun k hk2 hkl => by
      simp only [List.mem_cons, not_or] at hkl
      rw [get_put_ne hg2 _ hkl.1]
      exact he.2 k hk2 hkl.2⟩
    have hk3 := hk.node (x := nd) hnd (get_put_same hg2 _) (hl2.else (l := [M]) ⟨Nat.le_refl _, fun k hk2 hkl => get_put_ne hg2 _ (by simpa using hkl)⟩ fun b hb hm => hMb b hb (by simpa using hm)) hE hor
    rw [build5 (nd := nd) rfl]
    dsimp only
    refine ⟨ag1, ?_⟩
    rw [hop_app (vx := .slice p N.length c) (vy := .slice (some ⟨h1.nb, 0, none⟩) 1 1) Tryz.underlying25 Tryz.underlying25 rfl rfl, happ]
    dsimp only
    refine ⟨ag2, ?_⟩
    rw [hop_store (b := M) (off := 0) (v := ns') hi25 rfl rfl hcv (by rw [hs25]; rfl) (by simp [hisc]) hwr]
    dsimp only
    have hown : ∀ b ∈ ownL M on' r oo mp (oks ++ [none]), n ≤ b := fun b hb => by
      unfold ownL at hb hl
      simp only [List.mem_cons, List.mem_append, List.flatMap_append] at hb hl
      rcases hb with hb | hb | hb | hb | hb | hb | hb
      · exact hl b (.inl hb)
      · rcases hor with rfl | ⟨c, rfl, hc⟩
        · exact hl b (.inr (.inl hb))
        · have : b = c := by simpa using hb
          omega
      · exact hl b (.inr (.inr (.inl hb)))
      · exact hl b (.inr (.inr (.inr (.inl hb))))
      · exact hl b (.inr (.inr (.inr (.inr (.inl hb)))))
      · exact hl b (.inr (.inr (.inr (.inr (.inr hb)))))
      · simp at hb
    have hkeep3 : Keep n h1 (h2.put M ⟨[ns', rs, os, .map mp, .int .i64 D, .int .i64 K], 1, true⟩) := Keep.of_else hE (fun b hb => hl b (by
      unfold ownL
      simp only [List.mem_cons, List.mem_append] at hb ⊢
      rcases hb with hb | hb
      · exact .inl hb
      · exact .inr (.inl hb))) (by omega)
    have hs3 : MS (h2.put M ⟨[ns', rs, os, .map mp, .int .i64 D, .int .i64 K], 1, true⟩) M n (N ++ [nd]) R O T D K := ⟨by have := hkeep3.1; omega, ns', rs, os, mp, on', r, oo, _, _, hk3, hown⟩
    have hb3 := hb.node hnd
    generalize h2.put M ⟨[ns', rs, os, .map mp, .int .i64 D, .int .i64 K], 1, true⟩ = h3 at hs3 hkeep3 ⊢
    clear hk3 hown hE hwr hg2 hMb happ hl2 hor he ag0 ag1 ag2 hpe hD hrb hgb hrd hrK hg hk hk0 hh1 hh2
    refine CodeR.seq (CodeR.region ?_)
    simp [OpR, xwant, lightK, lop, evl, flat, flat0, putT, thenR, List.range, List.range.loop, isLen, isMM, callAt, isApp, isFn, evls]
    refine (put_r hs3 hb3 (by omega) _).mono ?_
    rintro u h4 ⟨hkeep4, hs4⟩
    try simp [OpR, putT]
    have hkeepA := (hkeep.trans hkeep3).trans hkeep4
    refine CodeR.seq (CodeR.seq (CodeR.region ?_))
    simp [OpR, xwant, lightK, lop, evl, flat, flat0, putT, thenR, List.range, List.range.loop, isLen, isMM, callAt, isApp, isFn, evls]
    simp only [nilEq_str]
    rw [lp_neqs (a := an) (b := ⟨#[]⟩) rfl rfl]
    simp [OpR]
    have he0 : (⟨#[]⟩ : ByteArray).toList = [] := by decide +kernel
    have hadd : addP N R O T K nd an = some ((putN (N ++ [nd]) R O N.length).1, (putN (N ++ [nd]) R O N.length).2, if an.toList == [] then T else mset an (.int .i64 N.length) T) := if_neg hK
    cases hE : an.toList == []
    · refine CodeR.cond (b := true) (by simp [evl, he0, hE]) ?_
      simp only [if_true]
      obtain ⟨hle4, ns4, rs4, os4, mp4, on4, r4, oo4, kv4, oks4, hk4, hl4⟩ := hs4
      refine CodeR.region ?_
      simp [OpR, xwant, lightK, lop, evl, flat, flat0, putT, thenR, List.range, List.range.loop, Tryz.underlying60, isLen, isMM, callAt, isApp, isFn, evls]
      refine (set_r (off := 3) (s := an) (n := N.length) hk4.cells rfl hk4.names).mono ?_
      rintro u2 h5 ⟨q, hc5, hq5, he5, hqM, hqs, hqn⟩
      try simp [OpR, putT]
      have hkn := hk4.name hc5 hq5 he5 (by
        cases hmp : mp4 with
        | none => exact .inr ⟨q, rfl, by rw [hqn hmp]; exact Nat.le_refl _⟩
        | some k => exact .inl (by rw [hqs k hmp]))
      have hkeep5 : Keep n h4 h5 := Keep.of_else he5 (fun b hb => hl4 b (by
        unfold ownL
        simp only [List.mem_cons, List.mem_append] at hb ⊢
        rcases hb with hb | hb
        · exact .inl hb
        · exact .inr (.inr (.inr (.inr (.inl hb)))))) (by omega)
      have hs5 : MS h5 M n (putN (N ++ [nd]) R O N.length).1 (putN (N ++ [nd]) R O N.length).2 O (mset an (.int .i64 N.length) T) D K := ⟨by have := hkeep5.1; omega, ns4, rs4, os4, some q, on4, r4, oo4, kv4, oks4, hkn, fun b hb => by
        unfold ownL at hb hl4
        simp only [List.mem_cons, List.mem_append] at hb hl4
        rcases hb with hb | hb | hb | hb | hb | hb
        · exact hl4 b (.inl hb)
        · exact hl4 b (.inr (.inl hb))
        · exact hl4 b (.inr (.inr (.inl hb)))
        · exact hl4 b (.inr (.inr (.inr (.inl hb))))
        · have hbq : b = q := by simpa using hb
          cases hmp : mp4 with
          | none => rw [hbq, hqn hmp]; exact hle4
          | some k =>
            rw [hbq, hqs k hmp]
            exact hl4 k (.inr (.inr (.inr (.inr (.inl (by simp [hmp]))))))
        · exact hl4 b (.inr (.inr (.inr (.inr (.inr hb)))))⟩
      refine CodeR.seq (CodeR.region ?_)
      simp [OpR, xwant, lightK, lop, evl, flat, flat0, putT, thenR, List.range, List.range.loop]
      refine CodeR.ret ?_
      refine hQ _ _ _ [.int .i64 0] (.inr rfl) rfl (.inl ⟨_, rfl, hkeepA.trans hkeep5, ?_⟩)
      rw [hadd, hE]
      exact ⟨rfl, hs5⟩
    · refine CodeR.cond (b := false) (by simp [evl, he0, hE]) ?_
      simp only [Bool.false_eq_true, if_false]
      refine CodeR.skip ?_
      simp only [thenR]
      refine CodeR.seq (CodeR.region ?_)
      simp [OpR, xwant, lightK, lop, evl, flat, flat0, putT, thenR, List.range, List.range.loop]
      refine CodeR.ret ?_
      refine hQ _ _ _ [.int .i64 0] (.inr rfl) rfl (.inl ⟨_, rfl, hkeepA, ?_⟩)
      rw [hadd, hE]
      exact ⟨rfl, hs4⟩
end Go.Proofs.YteeanpfhngoobaaGreat.Xk
