/- The document's Cyclic, as it runs. -/
import Derived.Test.YtjfeamfchgcblaaDoorGky
import Derived.Test.YtjfeamfchgcblaaDoorSpp
set_option linter.all false
set_option maxRecDepth 100000
namespace Go.Proofs.YtjfeamfchgcblaaDoor
open Go.RowKit

theorem Tryd.info23 : (Tryd.prog.info? 23).map (fun i => (i.zero, i.size, i.bytes)) = some (some (.slice none 0 0), 1, 24) := by kernel_rfl
/-- So many lists without anything. -/
theorem make_rows (n : Nat) (hn : n ≤ 1000000) (w : World) : ∃ w', (Instr.makeSlice 48 (.int .i64 (n : Int)) (.int .i64 (n : Int))).run Tryd.prog w = .ok (.slice (some ⟨w.heap.size, 0, none⟩) n n) w' ∧ w'.heap[w.heap.size]? = some (.cells (List.replicate n (Value.slice none 0 0)).toArray 23) ∧ Below w.heap.size w w' ∧ w.heap.size < w'.heap.size := by
  obtain ⟨i0, hi, hz0, hz1, hz2⟩ := info_parts Tryd.info23
  obtain ⟨w', h1, h2, h3⟩ := run_make_full (P := Tryd.prog) w w.heap.size 48 23 i0 (.slice none 0 0) 1 Tryd.underlying48 hi hz0 hz1 .i64 .i64 n (by rw [hz2]; omega) (by unfold maxLen; omega) (Nat.le_refl _)
  obtain ⟨a1, ⟨e, -⟩ | ⟨g, cap, cur, e, b1, b2, b3, b4, b5, b6⟩⟩ := h2
  · cases e
  · simp only [Value.slice.injEq, Option.some.injEq, Addr.mk.injEq] at e
    obtain ⟨⟨rfl, -, -⟩, -, rfl⟩ := e
    refine ⟨w', h1, ?_, ⟨h3.os, h3.tape, h3.output, h3.size, fun k hk => h3.block k hk (by simp)⟩, (Array.getElem?_eq_some_iff.1 b2).1⟩
    rw [b2]
    have hcur : cur = (List.replicate n (Value.slice none 0 0)).toArray := by
      apply Array.ext'
      rw [List.take_of_length_le (by simp; omega)] at b6
      rw [b6]
      unfold madeCells
      apply List.ext_getElem
      · simp
      · intro i h1 h2
        simp [Value.cells]
        rw [Nat.mod_one]
        rfl
    rw [hcur]
theorem CY.drewN {w0 : World} {N lb pb bx : Nat} {gc : Array Value} {Lf : List Int} {P : List (List Int)} {V : List Value} {a : Option Addr} {l : List Int} {vf : Value} {fr : List Int} {wr : World} (h : CY w0 N lb pb bx gc Lf P V a l vf fr wr) (n : Nat) : CY w0 N lb pb bx gc Lf P V a l vf fr (wr.drewN n) :=
  ⟨below_drewN h.bel n, h.nw, h.bxh, h.lf, h.pbh, h.vl, h.ow, h.ap, h.f, h.af, h.is.drewN n, h.nl⟩
set_option maxHeartbeats 8000000 in
theorem rCyclic_any {rit rv : ByteArray → Bool} (Lo : LowG rit rv) (p pr : Option Addr) (c cr : Nat) (G : List Gn) (rs : List Int) (r : Int) (w : World) (hG : Gs w p G) (hz : Gz G) (hI : Is w pr rs) (hr : rs.length ≤ 1000000) :
    Calls Tryd.prog 15 #[grV p G.length c pr rs.length cr, .int .i64 r] w fun e w' => ∃ v : Bool, e = .returned (.bool v) ∧ (v = true ↔ mayP rit rv G rs r = true ∧ ∃ k ∈ reachP rit rv G rs r, Pth (kdN G) k k) ∧ Below w.heap.size w w' := by
  have hB := (Below.refl w.heap.size w).alloc (Nat.le_refl _) (.cells #[.slice p G.length c, .slice pr rs.length cr] 25)
  have b0 : (w.alloc (.cells #[.slice p G.length c, .slice pr rs.length cr] 25)).heap[w.heap.size]? = some (.cells #[.slice p G.length c, .slice pr rs.length cr] 25) := World.alloc_heap_new w _
  have hlt : w.heap.size < (w.alloc (.cells #[.slice p G.length c, .slice pr rs.length cr] 25)).heap.size := by simp
  obtain ⟨w1, hw1⟩ : ∃ w1, w.alloc (.cells #[.slice p G.length c, .slice pr rs.length cr] 25) = w1 := ⟨_, rfl⟩
  rw [hw1] at hB b0 hlt
  have MY := rMay_any Lo p pr c cr G rs r w1 (hG.on hB) hz (hI.on hB) hr
  unfold grV at MY ⊢
  have cells : ∀ W : World, W.heap[w.heap.size]? = w1.heap[w.heap.size]? → Sg w.heap.size (.slice p G.length c) (.slice pr rs.length cr) W := by
    intro W h
    rw [b0] at h
    unfold Sg World.cell?
    rw [h]
    exact ⟨rfl, rfl⟩
  obtain ⟨f0, f1⟩ := cells w1 rfl
  have hn := hz.n
  cases hm : mayP rit rv G rs r with
  | false =>
    rw [hm] at MY
    go_enter Tryd.func15, Tryd.ntmps15
    go_wp2_with (first | (go_at_call 18; (try rw [hw1]); refine MY.mono ?_; rintro e w2 ⟨rfl, hb2⟩))
    go_ret
    exact ⟨false, rfl, by simp, hB.trans (hb2.mono hB.size)⟩
  | true =>
    rw [hm] at MY
    have hmm := hm
    unfold mayP at hmm
    rw [Bool.and_eq_true, decide_eq_true_iff] at hmm
    obtain ⟨hK, hsk⟩ := right_kids hmm.1
    have hreach : reachP rit rv G rs r = rcE G (List.replicate G.length false) [r] := by unfold reachP; rw [hm]; rfl
    have hLl : (reachP rit rv G rs r).length ≤ 30000 := by
      rw [hreach]
      have h1 := rcF_length G (rcM G (List.replicate G.length false) [r]) (List.replicate G.length false) [r]
      have h2 := left_le G (List.replicate G.length false) (by simp)
      unfold rcE
      unfold rcM at h1 ⊢
      simp at h1 ⊢
      omega
    have KNr : KN (kdN G) (reachP rit rv G rs r) G.length := by rw [hreach]; exact (reach_met G r (by omega) hK).1
    have HK : Hid (∀ x ∈ G, ∀ k ∈ x.kids, 0 ≤ k ∧ k.toNat < G.length) := hK
    have RE : Hid (∀ W, Below w.heap.size w W → Calls Tryd.prog 13 #[.agg #[.slice p G.length c, .slice pr rs.length cr], .int .i64 r] W fun e w' => ∃ v, e = .returned v ∧ OwnsI w' W.heap.size v (reachP rit rv G rs r) ∧ Below W.heap.size W w') := fun W hb => rReach_any Lo p pr c cr G rs r W (hG.on hb) hz (hI.on hb) hr
    generalize reachP rit rv G rs r = L at *
    clear hm hmm hreach Lo hK
    have HN : Hid (KN (kdN G) L G.length) := KNr
    clear KNr
    go_enter Tryd.func15, Tryd.ntmps15
    go_wp2_with (first | (go_at_call 18; (try rw [hw1]); refine MY.mono ?_; rintro e w2 ⟨rfl, hb2⟩; obtain ⟨g0, g1⟩ := cells w2 (hb2.block _ hlt); have hB2 := hB.trans (hb2.mono hB.size); have RE3 := RE.out w2 hB2) | (go_at_call 13; refine RE3.mono ?_; rintro e w4 ⟨v4, rfl, hO4, hb4⟩; obtain ⟨a4, k4, c4, rfl⟩ := ownsRow_form hO4; obtain ⟨hI4, rfl, hkc4, hcm4⟩ := is_of_row hO4; have q4 : w4.heap[w.heap.size]? = w1.heap[w.heap.size]? := (hb4.block _ (by have := hb2.size; omega)).trans (hb2.block _ hlt); obtain ⟨g2, g3⟩ := cells w4 q4; obtain ⟨w5, mk1, mk2, mk3, mk4⟩ := make_ints G.length (by omega) w4; have q5 : w5.heap[w.heap.size]? = w1.heap[w.heap.size]? := (mk3.block _ (by have := hb2.size; have := hb4.size; omega)).trans q4; obtain ⟨g4, g5⟩ := cells w5 q5; obtain ⟨w6, mr1, mr2, mr3, mr4⟩ := make_rows G.length (by omega) w5; have q6 : w6.heap[w.heap.size]? = w1.heap[w.heap.size]? := (mr3.block _ (by have := hb2.size; have := hb4.size; have := mk3.size; omega)).trans q5; obtain ⟨g6, g7⟩ := cells w6 q6))
    have hs2 := hb2.size
    have hs4 := hb4.size
    have hs5 := mk3.size
    have hs6 := mr3.size
    have hCB : CB w w6.heap.size w4.heap.size w5.heap.size w.heap.size := ⟨by omega, by omega, by omega, by omega, by omega, by omega, by omega, by omega⟩
    have hB4 := hB2.trans (hb4.mono hB2.size)
    have hB5 := hB4.trans (mk3.mono hB4.size)
    have hB6 := hB5.trans (mr3.mono hB5.size)
    have v0 : ∀ u, u < G.length → vAt (List.replicate G.length (.slice none 0 0)) u = .slice none 0 0 := fun u hu => by unfold vAt; rw [List.getElem?_replicate, if_pos hu]; rfl
    have CY0 : CY w w6.heap.size w4.heap.size w5.heap.size w.heap.size #[.slice p G.length c, .slice pr rs.length cr] (List.replicate G.length 0) (List.replicate G.length []) (List.replicate G.length (.slice none 0 0)) a4 L (.slice none 0 0) [] w6 :=
      ⟨hB6, Nat.le_refl _, q6.trans b0, (mr3.block _ mk4).trans mk2, mr2, (by simp), (fun u hu => by
        rw [List.length_replicate] at hu
        rw [v0 u hu, pAt_none]
        exact ⟨rfl, .inl ⟨rfl, rfl⟩⟩), (fun u u' g hu _ _ hg => by
        rw [List.length_replicate] at hu
        rw [v0 u hu] at hg
        cases hg), ⟨rfl, .inl ⟨rfl, rfl⟩⟩, (fun u g hu hg => by
        rw [List.length_replicate] at hu
        rw [v0 u hu] at hg
        cases hg), (hI4.on mk3).on mr3, (fun x hx hl => by
        rcases hO4.2 with ⟨e, -⟩ | ⟨g, cap, cur, e, hbb, hbc, -⟩
        · simp only [Value.slice.injEq] at e
          rw [hx] at e
          cases e.1
        · simp only [Value.slice.injEq] at e
          rw [hx] at e
          have := e.1
          injection this with this
          rw [this]
          have hgl := (Array.getElem?_eq_some_iff.1 hbc).1
          show g < w6.heap.size ∧ g ≠ w4.heap.size ∧ g ≠ w5.heap.size
          omega)⟩
    have hlen0 : ∀ u, (pAt (List.replicate G.length ([] : List Int)) u).length ≤ 0 := fun u => by rw [pAt_none]; exact Nat.le_refl _
    clear hO4 hI4 RE MY mk1 mk2 mr1 mr2 RE3 hb4 g0 g1 g2 g3 g4 g5 g6 g7 f0 f1 q4 q5 q6 v0 hB4 hB5 hB2 hb2 mk3 mr3
    generalize w4.heap.size = lb at *
    generalize w5.heap.size = pb at *
    generalize w6.heap.size = N at *
    go_loopw [8, 9] (fun rf ri wr => ∃ (i : Nat) (fr Lf : List Int) (P : List (List Int)) (V : List Value) (af : Option Addr) (cf : Nat), i ≤ L.length ∧ ri = .int .i64 i ∧ rf = .slice af fr.length cf ∧ Hid (KS (kdN G) L G.length (L.take i) fr Lf P) ∧ Hid (fr.length ≤ i ∧ ∀ u, (pAt P u).length ≤ i * 30001) ∧ CY w N lb pb w.heap.size #[.slice p G.length c, .slice pr rs.length cr] Lf P V a4 L (.slice af fr.length cf) fr wr) (fun _ ri _ => L.length - (RowKit.intOf ri).toNat)
    case atStart => exact ⟨0, [], _, _, _, none, 0, Nat.zero_le _, rfl, rfl, KS.start (kdN G) L G.length, ⟨Nat.le_refl _, fun u => by have := hlen0 u; omega⟩, CY0⟩
    case round =>
      clear CY0
      obtain ⟨i, fr, Lf, P, V, af, cf, hi, rfl, rfl, hS, hD, hU⟩ := hrel
      by_cases hli : i < L.length
      · obtain ⟨bl, ol, rfl, hcl⟩ := hU.is.at (by omega)
        have cl := hcl i hli
        have hmem : iAt L i ∈ L := by unfold iAt; rw [List.getElem?_eq_getElem hli]; exact List.getElem_mem _
        obtain ⟨hk0, hk1⟩ := HN.out.r _ hmem
        obtain ⟨kn, hkn⟩ : ∃ kn : Nat, iAt L i = kn := ⟨(iAt L i).toNat, by omega⟩
        have htk : L.take (i + 1) = L.take i ++ [(kn : Int)] := by
          rw [List.take_succ_eq_append_getElem hli, ← hkn]
          unfold iAt
          rw [List.getElem?_eq_getElem hli]
          rfl
        rw [hkn] at cl hk1 hmem
        rw [Int.toNat_natCast] at hk1
        have hkd : kdN G (kn : Int) = (gAt G kn).kids := by unfold kdN; rw [Int.toNat_natCast]
        have hk1' : (kn : Int) < G.length := by omega
        have hli' : (i : Int) < L.length := by omega
        have hG2 := hG.on hU.bel
        obtain ⟨b, o, rfl, hc⟩ := hG2.at_ (by omega)
        have hx := (hc kn hk1).c3
        have hkk := (hG.k kn hk1).is
        have hbx0 : wr.cell? ⟨w.heap.size, 0, none⟩ = some (.slice (some ⟨b, o, none⟩) G.length c) := by simp [World.cell?, hU.bxh]
        have hkl : (gAt G kn).kids.length ≤ 20000 := by
          have h1 := sumK_step (G := G) (i := kn) hk1
          have h2 := sumK_take G (kn + 1)
          omega
        have hnot : (kn : Int) ∉ L.take i := by
          intro hm
          have := HN.out.nd
          rw [← List.take_append_drop (i + 1) L, htk] at this
          have := (List.nodup_append.1 (List.nodup_append.1 this).1).2.2
          exact this _ hm _ (by simp) rfl
        have hLfl : Lf.length = G.length := hS.out.ll
        have cL : wr.cell? ⟨lb, kn, none⟩ = some (.int .i64 (iAt Lf kn)) := by simp [World.cell?, hU.lf, iAt, hLfl, hk1]
        have fL : wr.frozen? ⟨lb, kn, none⟩ = false := by simp [World.frozen?, hU.lf]
        have HMEM : Hid ((kn : Int) ∈ L) := hmem
        have HNOT : Hid ((kn : Int) ∉ L.take i) := hnot
        have HTK : Hid (L.take (i + 1) = L.take i ++ [(kn : Int)]) := htk
        have HKD : Hid (kdN G (kn : Int) = (gAt G kn).kids) := hkd
        have HKN : Hid (iAt L i = kn) := hkn
        clear hcl hmem hkn hG2 hc htk hkd hnot
        generalize (gAt G kn).q = q at hx hkk
        generalize (gAt G kn).kids = kids at *
        generalize (gAt G kn).c = ck at hx
        obtain ⟨wo, rfl⟩ : ∃ wo : World, wo = wr := ⟨_, rfl⟩
        go_wp2
        go_quiet (fail)
        go_wp2
        have U1 := (hU.drewN nq).setL hCB (k := kn) (by omega) (kids.length : Int)
        have KT0 := KS.open hS.out HNOT.out
        obtain ⟨hD1, hD2⟩ := hD.out
        clear hU hx hbx0 cl cL fL
        generalize (wo.drewN nq).setCell ⟨lb, kn, none⟩ (.int .i64 (kids.length : Int)) = wx at U1 ⊢
        go_loopw [11] (fun rj wr => ∃ (j : Nat) (P2 : List (List Int)) (V2 : List Value), j ≤ kids.length ∧ rj = .int .i64 j ∧ Hid (KT (kdN G) L G.length (L.take i) (kn : Int) (kids.take j) P2) ∧ Hid (∀ u, (pAt P2 u).length ≤ i * 30001 + j) ∧ CY w N lb pb w.heap.size #[.slice (some ⟨b, o, none⟩) G.length c, .slice pr rs.length cr] (Lf.set kn (kids.length : Int)) P2 V2 (some ⟨bl, ol, none⟩) L (.slice af fr.length cf) fr wr) (fun rj _ => kids.length - (RowKit.intOf rj).toNat)
        case atStart => exact ⟨0, P, V, Nat.zero_le _, rfl, by rw [List.take_zero]; exact KT0, fun u => by have := hD2 u; omega, U1⟩
        case round =>
          clear U1 KT0
          obtain ⟨j, P2, V2, hj, rfl, hT, hD3, hU4⟩ := hrel
          by_cases hjl : j < kids.length
          · have hI5 := hkk.on hU4.bel
            obtain ⟨bq, oq, rfl, hcq⟩ := hI5.at (by omega)
            have cq := hcq j hjl
            have hkm : iAt kids j ∈ kids := by unfold iAt; rw [List.getElem?_eq_getElem hjl]; exact List.getElem_mem _
            have huL : iAt kids j ∈ L := HN.out.cl _ HMEM.out _ (by rw [HKD.out]; exact hkm)
            obtain ⟨hq0, hq1⟩ := HN.out.r _ huL
            have KT1 := KT.step HN.out hT.out HNOT.out huL
            obtain ⟨un, hun⟩ : ∃ un : Nat, iAt kids j = un := ⟨(iAt kids j).toNat, by omega⟩
            have hktk : kids.take (j + 1) = kids.take j ++ [(un : Int)] := by
              rw [List.take_succ_eq_append_getElem hjl, ← hun]
              unfold iAt
              rw [List.getElem?_eq_getElem hjl]
              rfl
            have HUN : Hid (iAt kids j = un) := hun
            rw [hun] at cq hq1 KT1
            rw [← hktk] at KT1
            rw [Int.toNat_natCast] at hq1 KT1
            have hP2 : P2.length = G.length := hT.out.pl
            have hV2 : V2.length = G.length := by rw [hU4.vl, hP2]
            have hq1' : (un : Int) < G.length := by omega
            have hjl' : (j : Int) < kids.length := by omega
            have hD4 := hD3.out
            have hpl : (pAt P2 un).length ≤ 1000000000 := by have := hD4 un; have : i * 30001 ≤ 30000 * 30001 := Nat.mul_le_mul_right _ (by omega); omega
            obtain ⟨g3, c3, w3, hrun0, hpb3, U5⟩ := CY.pushU hCB (wr := wr.drew) (hU4.drewN 1) (u := un) (by omega) hpl (kn : Int)
            have hrun : (Builtin.append_ #[23, 23] 23 #[vAt V2 un, .slice (some ⟨wr.heap.size, 0, none⟩) 1 1]).run Tryd.prog (wr.drew.alloc (.cells #[.int .i64 (kn : Int)] 3)) = .ok (.slice (some ⟨g3, 0, none⟩) ((pAt P2 un).length + 1) c3) w3 := hrun0
            obtain ⟨au, ku, cu, hvu⟩ := ownsRow_form (hU4.ow un (by omega))
            have cV : wr.cell? ⟨pb, un, none⟩ = some (vAt V2 un) := by
              have : un < V2.length := by omega
              simp [World.cell?, hU4.pbh, vAt, this]
            have cV3 : w3.cell? ⟨pb, un, none⟩ = some (vAt V2 un) := by
              have : un < V2.length := by omega
              simp [World.cell?, hpb3, vAt, this]
            have fV3 : w3.frozen? ⟨pb, un, none⟩ = false := by simp [World.frozen?, hpb3]
            have clw : wr.cell? ⟨bl, ol + i, none⟩ = some (.int .i64 (kn : Int)) := by
              obtain ⟨bl2, ol2, e2, h2⟩ := hU4.is.at (by omega)
              cases e2
              rw [h2 i hli, HKN.out]
            have HD5 : Hid (∀ u, (pAt (P2.set un (pAt P2 un ++ [(kn : Int)])) u).length ≤ i * 30001 + (j + 1 : Nat)) := by
              intro u
              rw [pAt_set (by omega)]
              split
              · rw [List.length_append]; have := hD4 un; simp; omega
              · have := hD4 u; omega
            have HK1 : Hid (KT (kdN G) L G.length (L.take i) (kn : Int) (kids.take (j + 1)) (P2.set un (pAt P2 un ++ [(kn : Int)]))) := KT1
            clear hT hD3 hD4 KT1 hktk hun huL hkm hcq hI5 hU4 hpb3 hS hD hD2
            rw [hvu] at cV cV3 hrun
            have up : ∀ {bb oo : Nat} {v : Value}, wr.cell? ⟨bb, oo, none⟩ = some v → (wr.alloc (.cells #[.int .i64 (kn : Int)] 3)).cell? ⟨bb, oo, none⟩ = some v := fun h => (((Below.refl wr.heap.size wr).alloc (Nat.le_refl _) _).cell (World.block_lt_of_cell? wr _ h)).trans h
            have cVa := up cV
            have hbqw : bq < w.heap.size := hkk.lt _ rfl (by omega)
            have cq3 : w3.cell? ⟨bq, oq + j, none⟩ = some (.int .i64 (un : Int)) := by
              obtain ⟨b9, o9, e9, h9⟩ := (hkk.on U5.bel).at (by omega)
              cases e9
              have h10 := h9 j hjl
              rw [HUN.out] at h10
              rw [← h10]
              refine World.cell?_of_block (a := ⟨bq, oq + j, none⟩) (Deep.blk_setCell_other _ _ _ _ ?_).symm
              show bq ≠ pb
              have := hCB.b
              omega
            have cqa := up cq
            have cla := up clw
            clear hrun0 hvu up
            go_wp2
            go_region_law (refine step_append_run (u := .slice au ku cu) (y := .slice (some ⟨wr.heap.size, 0, none⟩) 1 1) rfl _ _ 23 rfl rfl rfl hrun ?_)
            all_goals
              go_wp2
              go_roundw
              case rel => exact ⟨j + 1, _, _, by omega, by go_num, HK1.out, HD5.out, U5⟩
              case measure => simp [RowKit.intOf]; omega
          · obtain rfl : j = kids.length := by omega
            have clw : wr.cell? ⟨bl, ol + i, none⟩ = some (.int .i64 (kn : Int)) := by
              obtain ⟨bl2, ol2, e2, h2⟩ := hU4.is.at (by omega)
              cases e2
              rw [h2 i hli, HKN.out]
            have hTd := hT.out
            rw [List.take_length, ← HKD.out] at hTd
            have hpin : ∀ u ∈ L.take i, u ∈ L := fun u hu => List.mem_of_mem_take hu
            have KSn := KT.done HN.out hS.out hTd HMEM.out HNOT.out hpin
            rw [HKD.out, ← HTK.out, Int.toNat_natCast] at KSn
            have HD6 : Hid (∀ u, (pAt P2 u).length ≤ (i + 1) * 30001) := fun u => by have := hD3.out u; have : (i + 1) * 30001 = i * 30001 + 30001 := Nat.succ_mul i 30001; omega
            by_cases h0 : kids.length = 0
            · have hke : kids = [] := List.eq_nil_of_length_eq_zero h0
              subst hke
              have KSm : KS (kdN G) L G.length (L.take (i + 1)) (fr ++ [(kn : Int)]) (Lf.set kn 0) P2 := KSn
              have HKS : Hid (KS (kdN G) L G.length (L.take (i + 1)) (fr ++ [(kn : Int)]) (Lf.set kn 0) P2) := KSm
              obtain ⟨g5, c5, w5, hrunF, U6⟩ := hU4.pushF hCB (by omega) (kn : Int)
              have HU6 : Hid (CY w N lb pb w.heap.size #[.slice (some ⟨b, o, none⟩) G.length c, .slice pr rs.length cr] (Lf.set kn 0) P2 V2 (some ⟨bl, ol, none⟩) L (.slice (some ⟨g5, 0, none⟩) (fr ++ [(kn : Int)]).length c5) (fr ++ [(kn : Int)]) w5) := by
                have e : (fr ++ [(kn : Int)]).length = fr.length + 1 := by simp
                show CY _ _ _ _ _ _ _ _ _ _ _ _ _ _
                rw [e]
                exact U6
              clear hT hD3 hTd KSn KSm hS hD hD2 hU4 U6
              go_wp2_with (first | (at_builtin; refine wpList_append_run rfl _ _ 23 rfl rfl rfl hrunF ?_))
              go_roundw
              case rel => exact ⟨i + 1, fr ++ [(kn : Int)], Lf.set kn 0, P2, V2, some ⟨g5, 0, none⟩, c5, by omega, by go_num, by rw [List.length_append]; rfl, HKS.out, ⟨by rw [List.length_append]; show fr.length + 1 ≤ i + 1; omega, HD6.out⟩, HU6.out⟩
              case measure => simp [RowKit.intOf]; omega
            · have h0' : ((kids.length : Int) == 0) = false := by simp; intro e; exact h0 (by rw [e]; rfl)
              have hne : (kids.isEmpty = true) = False := by
                rw [List.isEmpty_iff]
                exact propext ⟨fun e => h0 (by rw [e]; rfl), False.elim⟩
              rw [if_neg (by rw [hne]; exact id)] at KSn
              have HKS : Hid (KS (kdN G) L G.length (L.take (i + 1)) fr (Lf.set kn (kids.length : Int)) P2) := KSn
              clear hT hD3 hTd KSn hS hD hD2 clw
              go_wp2
              go_roundw
              case rel => exact ⟨i + 1, fr, Lf.set kn (kids.length : Int), P2, V2, af, cf, by omega, by go_num, rfl, HKS.out, ⟨by omega, HD6.out⟩, hU4⟩
              case measure => simp [RowKit.intOf]; omega
      · obtain rfl : i = L.length := by omega
        have hSd := hS.out
        rw [List.take_length] at hSd
        obtain ⟨hKU, hKI⟩ := KS.done HN.out hSd
        have HKU : Hid (KU (kdN G) L P) := hKU
        have HKI : Hid (KI (kdN G) L G.length [] fr Lf) := hKI
        have hPl : P.length = G.length := hSd.pl
        have HPL : Hid (∀ u, (pAt P u).length ≤ 1000000000) := fun u => by have := hD.out.2 u; have : L.length * 30001 ≤ 30000 * 30001 := Nat.mul_le_mul_right _ (by omega); omega
        have HKD2 : Hid (∀ u, (kdN G u).length ≤ 20000) := fun u => by
          unfold kdN
          by_cases hu : u.toNat < G.length
          · have h1 := sumK_step (G := G) (i := u.toNat) hu
            have h2 := sumK_take G (u.toNat + 1)
            omega
          · unfold gAt
            rw [List.getElem?_eq_none (by omega)]
            simp
        clear hS hD hSd hKU hKI hG
        obtain ⟨wo, rfl⟩ : ∃ wo : World, wo = wr := ⟨_, rfl⟩
        go_wp2
        go_loopw [8, 12] (fun rf rg wr => ∃ (gone fr Lf : List Int) (af : Option Addr) (cf : Nat), rg = .int .i64 (gone.length : Nat) ∧ rf = .slice af fr.length cf ∧ Hid (KI (kdN G) L G.length gone fr Lf) ∧ CY w N lb pb w.heap.size #[.slice p G.length c, .slice pr rs.length cr] Lf P V a4 L (.slice af fr.length cf) fr wr) (fun _ rg _ => L.length - (RowKit.intOf rg).toNat)
        case atStart => exact ⟨[], fr, Lf, af, cf, rfl, rfl, HKI.out, hU⟩
        case round =>
          clear hU HKI
          obtain ⟨gone, fr, Lf, af, cf, rfl, rfl, hI, hU⟩ := hrel
          have hlen := hI.out.len
          have hgl : (gone.length : Int) ≤ 30000 := by omega
          have hLl2 : (L.length : Int) ≤ 30000 := by omega
          by_cases h0 : fr.length = 0
          · have hfe : fr = [] := List.eq_nil_of_length_eq_zero h0
            subst hfe
            have HRG := KI.ring HN.out hI.out
            have hBf := hU.bel
            clear hI hU HKU HPL HKD2
            go_wp2
            go_ret
            refine ⟨decide (gone.length < L.length), ?_, ?_, hBf⟩
            · first | rfl | (apply ret_bool; rw [Bool.eq_iff_iff, decide_eq_true_iff, decide_eq_true_iff]; omega) | (apply ret_bool; simp)
            · rw [decide_eq_true_iff, HRG]
              simp
          · obtain ⟨m, hm⟩ : ∃ m, fr.length = m + 1 := ⟨fr.length - 1, by omega⟩
            obtain ⟨hIf, -, hlc, hcm⟩ := is_of_row hU.f
            obtain ⟨gf, oo, rfl, hcell⟩ := hIf.at (by omega)
            have hof : oo = 0 := by
              rcases hU.f.2 with ⟨e, -⟩ | ⟨g, cap, cur, e, -⟩
              · cases e
              · simp only [Value.slice.injEq, Option.some.injEq, Addr.mk.injEq] at e
                exact e.1.2.1
            subst hof
            have c1 := hcell m (by omega)
            rw [Nat.zero_add] at c1
            have hfr : fr = fr.take m ++ [iAt fr m] := by
              conv => lhs; rw [← List.take_append_drop m fr]
              congr 1
              rw [List.drop_eq_getElem_cons (by omega), List.drop_eq_nil_of_le (by omega)]
              unfold iAt
              rw [List.getElem?_eq_getElem (by omega)]
              rfl
            have hI2 := hI.out
            rw [hfr] at hI2
            have KD0 := hI2.take
            have hkL := KD0.kl
            obtain ⟨hk0, hk1⟩ := HN.out.r _ hkL
            obtain ⟨kn, hkn⟩ : ∃ kn : Nat, iAt fr m = kn := ⟨(iAt fr m).toNat, by omega⟩
            rw [hkn] at c1 hk1 KD0 hkL
            rw [Int.toNat_natCast] at hk1
            have hk1' : (kn : Int) < G.length := by omega
            have hpop := hU.popF m (by omega)
            have htl : (fr.take m).length = m := by rw [List.length_take]; omega
            have SL := slice_to (some ⟨gf, 0, none⟩) fr.length cf m (by omega)
            have hmc : (m : Int) ≤ cf := by omega
            have hmb : (m : Int) ≤ 30000 := by omega
            rw [hm] at SL hlc
            rw [hm]
            have hm2 : ((m + 1 : Nat) : Int) - 1 = m := by omega
            have hm3 : (m : Int) < ((m + 1 : Nat) : Int) := by omega
            have HGL : Hid (gone.length < L.length) := by show _ < _; omega
            have hPT : CY w N lb pb w.heap.size #[.slice p G.length c, .slice pr rs.length cr] Lf P V a4 L (.slice (some ⟨gf, 0, none⟩) (fr.take m).length cf) (fr.take m) wr := by rw [htl]; exact hpop
            have HF0 : Hid ((fr.take m).length = m) := htl
            have HKD0 : Hid (KD (kdN G) L G.length gone (kn : Int) [] (fr.take m) Lf) := KD0
            clear hU hI hI2 KD0 hIf hcell hfr hpop htl h0 hm hkn hlen
            generalize fr.take m = fr0 at *
            obtain ⟨wo, rfl⟩ : ∃ wo : World, wo = wr := ⟨_, rfl⟩
            go_wp2
            go_loopw [8, 14] (fun rf rj wr => ∃ (j : Nat) (fr2 Lf2 : List Int) (af2 : Option Addr) (cf2 : Nat), j ≤ (pAt P kn).length ∧ rj = .int .i64 j ∧ rf = .slice af2 fr2.length cf2 ∧ Hid (KD (kdN G) L G.length gone (kn : Int) ((pAt P kn).take j) fr2 Lf2) ∧ CY w N lb pb w.heap.size #[.slice p G.length c, .slice pr rs.length cr] Lf2 P V a4 L (.slice af2 fr2.length cf2) fr2 wr) (fun _ rj _ => (pAt P kn).length - (RowKit.intOf rj).toNat)
            case atStart => exact ⟨0, fr0, Lf, some ⟨gf, 0, none⟩, cf, Nat.zero_le _, rfl, by rw [HF0.out], by rw [List.take_zero]; exact HKD0.out, hPT⟩
            case round =>
              clear hPT HKD0 c1 SL
              obtain ⟨j, fr2, Lf2, af2, cf2, hj, rfl, rfl, hKD, hU2⟩ := hrel
              have how := hU2.ow kn (by omega)
              obtain ⟨au, ku, cu, hvu⟩ := ownsRow_form how
              rw [hvu] at how
              obtain ⟨hIu, hku, hkc, hkm⟩ := is_of_row how
              have cV : wr.cell? ⟨pb, kn, none⟩ = some (.slice au (pAt P kn).length cu) := by
                have : kn < V.length := by rw [hU2.vl]; omega
                rw [← hku, ← hvu]
                simp [World.cell?, hU2.pbh, vAt, this]
              have hul := HPL.out kn
              have hul' : ((pAt P kn).length : Int) ≤ 1000000000 := by omega
              by_cases hjl : j < (pAt P kn).length
              · have hjl' : (j : Int) < (pAt P kn).length := by omega
                obtain ⟨bu, ou, rfl, hcu⟩ := hIu.at (by omega)
                have cu1 := hcu j hjl
                have hsp : pAt P (kn : Int).toNat = (pAt P kn).take j ++ iAt (pAt P kn) j :: (pAt P kn).drop (j + 1) := by
                  rw [Int.toNat_natCast]
                  conv => lhs; rw [← List.take_append_drop j (pAt P kn)]
                  congr 1
                  rw [List.drop_eq_getElem_cons hjl]
                  unfold iAt
                  rw [List.getElem?_eq_getElem hjl]
                  rfl
                obtain ⟨huL, hup, KD1⟩ := KD.step HN.out HKU.out hKD.out hsp
                obtain ⟨hu0, hu1⟩ := HN.out.r _ huL
                obtain ⟨un, hun⟩ : ∃ un : Nat, iAt (pAt P kn) j = un := ⟨(iAt (pAt P kn) j).toNat, by omega⟩
                have hlf := hKD.out.lf _ huL
                have hlv : lv (kdN G) gone (iAt (pAt P kn) j) ≤ 20000 := by
                  have := HKD2.out (iAt (pAt P kn) j)
                  unfold lv
                  exact Nat.le_trans (List.length_filter_le _ _) this
                have htk : (pAt P kn).take (j + 1) = (pAt P kn).take j ++ [(un : Int)] := by
                  rw [List.take_succ_eq_append_getElem hjl, ← hun]
                  unfold iAt
                  rw [List.getElem?_eq_getElem hjl]
                  rfl
                have hlb : iAt Lf2 (iAt (pAt P kn) j).toNat ≤ 20000 := by omega
                rw [hun] at cu1 KD1 hup hu1 hlb
                rw [Int.toNat_natCast] at KD1 hup hu1 hlb
                rw [← htk] at KD1
                have hu1' : (un : Int) < G.length := by omega
                have hLl3 : Lf2.length = G.length := hKD.out.ll
                have cL : wr.cell? ⟨lb, un, none⟩ = some (.int .i64 (iAt Lf2 un)) := by simp [World.cell?, hU2.lf, iAt, hLl3, hu1]
                have fL : wr.frozen? ⟨lb, un, none⟩ = false := by simp [World.frozen?, hU2.lf]
                have U7 := hU2.setL hCB (k := un) (by omega) (iAt Lf2 un - 1)
                have hfl2 : fr2.length ≤ 30000 := by
                  have := (nodup_le _ L hKD.out.nd hKD.out.ss)
                  simp at this
                  omega
                have cS : (wr.setCell ⟨lb, un, none⟩ (.int .i64 (iAt Lf2 un - 1))).cell? ⟨lb, un, none⟩ = some (.int .i64 (iAt Lf2 un - 1)) := by
                  have h2 := U7.lf
                  simp [World.cell?, h2, hLl3, hu1]
                obtain ⟨wz, hwz⟩ : ∃ wz, wr.setCell ⟨lb, un, none⟩ (.int .i64 (iAt Lf2 un - 1)) = wz := ⟨_, rfl⟩
                rw [hwz] at U7 cS
                have hz0 : 0 < iAt Lf2 un := hup
                by_cases hz : iAt Lf2 un - 1 = 0
                · rw [if_pos hz] at KD1
                  have HKD1 : Hid (KD (kdN G) L G.length gone (kn : Int) ((pAt P kn).take (j + 1)) (fr2 ++ [(un : Int)]) (Lf2.set un (iAt Lf2 un - 1))) := KD1
                  obtain ⟨g8, c8, w8, hrun8, U8⟩ := U7.pushF hCB (by omega) (un : Int)
                  have HU8 : Hid (CY w N lb pb w.heap.size #[.slice p G.length c, .slice pr rs.length cr] (Lf2.set un (iAt Lf2 un - 1)) P V a4 L (.slice (some ⟨g8, 0, none⟩) (fr2 ++ [(un : Int)]).length c8) (fr2 ++ [(un : Int)]) w8) := by
                    have e : (fr2 ++ [(un : Int)]).length = fr2.length + 1 := by simp
                    show CY _ _ _ _ _ _ _ _ _ _ _ _ _ _
                    rw [e]
                    exact U8
                  rw [hz] at cS hwz
                  have hz' : iAt Lf2 un = 1 := by omega
                  rw [hz'] at cL
                  clear hKD hU2 KD1 U7 U8 hcu hIu how hvu hku hsp htk hlf hlv hlb hup hun hz0 hz hz'
                  go_wp2_with (first | rw [hwz] | (at_builtin; refine wpList_append_run rfl _ _ 23 rfl rfl rfl hrun8 ?_))
                  go_roundw
                  case rel => exact ⟨j + 1, fr2 ++ [(un : Int)], _, some ⟨g8, 0, none⟩, c8, by omega, by go_num, by rw [List.length_append]; rfl, HKD1.out, HU8.out⟩
                  case measure => simp [RowKit.intOf]; omega
                · rw [if_neg hz] at KD1
                  have HKD1 : Hid (KD (kdN G) L G.length gone (kn : Int) ((pAt P kn).take (j + 1)) fr2 (Lf2.set un (iAt Lf2 un - 1))) := KD1
                  have HU8 : Hid (CY w N lb pb w.heap.size #[.slice p G.length c, .slice pr rs.length cr] (Lf2.set un (iAt Lf2 un - 1)) P V a4 L (.slice af2 fr2.length cf2) fr2 wz) := U7
                  have hz' : (iAt Lf2 un - 1 == 0) = false := by simpa using hz
                  clear hKD hU2 KD1 U7 hcu hIu how hvu hku hsp htk hlf hlv hup hun
                  generalize iAt Lf2 un = z at *
                  go_wp2_with (first | rw [hwz])
                  go_roundw
                  case rel => exact ⟨j + 1, fr2, _, af2, cf2, by omega, by go_num, rfl, HKD1.out, HU8.out⟩
                  case measure => simp [RowKit.intOf]; omega
              · obtain rfl : j = (pAt P kn).length := by omega
                have hKDd := hKD.out
                rw [List.take_length] at hKDd
                have hKI2 : KI (kdN G) L G.length (gone ++ [(kn : Int)]) fr2 Lf2 := KD.done HKU.out (by rw [Int.toNat_natCast]; exact hKDd)
                have HKI2 : Hid (KI (kdN G) L G.length (gone ++ [(kn : Int)]) fr2 Lf2) := hKI2
                clear hKD hKDd hKI2 hIu how hvu hku
                go_wp2
                go_roundw
                case rel => exact ⟨gone ++ [(kn : Int)], fr2, Lf2, af2, cf2, by rw [List.length_append]; first | rfl | go_num, rfl, HKI2.out, hU2⟩
                case measure => have := HGL.out; simp [RowKit.intOf]; omega
end Go.Proofs.YtjfeamfchgcblaaDoor
