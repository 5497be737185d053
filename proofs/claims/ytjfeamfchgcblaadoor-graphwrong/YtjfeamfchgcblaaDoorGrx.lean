/- The document's Uses, as it runs. -/
import Derived.Test.YtjfeamfchgcblaaDoorGru
set_option linter.all false
set_option maxRecDepth 100000
namespace Go.Proofs.YtjfeamfchgcblaaDoor
open Go.RowKit

set_option maxHeartbeats 1600000 in
theorem rUses_any {rit rv : ByteArray → Bool} (Lo : LowG rit rv) (p pr : Option Addr) (c cr : Nat) (G : List Gn) (rs : List Int) (r : Int) (w : World) (hG : Gs w p G) (hz : Gz G) (hI : Is w pr rs) (hr : rs.length ≤ 1000000) :
    Calls Tryd.prog 17 #[grV p G.length c pr rs.length cr, .int .i64 r] w fun e w' => ∃ v, e = .returned v ∧ OwnsI w' w.heap.size v (usesP rit rv G rs r) ∧ Below w.heap.size w w' := by
  have hB := (Below.refl w.heap.size w).alloc (Nat.le_refl _) (.cells #[.slice p G.length c, .slice pr rs.length cr] 25)
  have b0 : (w.alloc (.cells #[.slice p G.length c, .slice pr rs.length cr] 25)).heap[w.heap.size]? = some (.cells #[.slice p G.length c, .slice pr rs.length cr] 25) := World.alloc_heap_new w _
  have hlt : w.heap.size < (w.alloc (.cells #[.slice p G.length c, .slice pr rs.length cr] 25)).heap.size := by simp
  obtain ⟨w1, hw1⟩ : ∃ w1, w.alloc (.cells #[.slice p G.length c, .slice pr rs.length cr] 25) = w1 := ⟨_, rfl⟩
  rw [hw1] at hB b0 hlt
  have MY := rMay_any Lo p pr c cr G rs r w1 (hG.on hB) hz (hI.on hB) hr
  unfold grV at MY ⊢
  have cells : ∀ W : World, W.heap[w.heap.size]? = w1.heap[w.heap.size]? → Sg w.heap.size (.slice p G.length c) (.slice pr rs.length cr) W := by
    intro W h
    rw [b0] at h
    unfold Sg World.cell?
    rw [h]
    exact ⟨rfl, rfl⟩
  obtain ⟨f0, f1⟩ := cells w1 rfl
  have hn := hz.n
  cases hm : mayP rit rv G rs r with
  | false =>
    rw [hm] at MY
    have HR : Hid (usesP rit rv G rs r = []) := by show _ = _; unfold usesP; rw [hm]; rfl
    generalize usesP rit rv G rs r = F at HR ⊢
    go_enter Tryd.func17, Tryd.ntmps17
    go_wp2_with (first | (go_at_call 18; (try rw [hw1]); refine MY.mono ?_; rintro e w2 ⟨rfl, hb2⟩))
    go_ret
    exact ⟨_, rfl, by rw [HR.out]; exact ⟨rfl, .inl ⟨rfl, rfl⟩⟩, hB.trans (hb2.mono hB.size)⟩
  | true =>
    rw [hm] at MY
    have hmm := hm
    unfold mayP at hmm
    rw [Bool.and_eq_true, decide_eq_true_iff] at hmm
    obtain ⟨hK, hsk⟩ := right_kids hmm.1
    have hreach : reachP rit rv G rs r = rcE G (List.replicate G.length false) [r] := by unfold reachP; rw [hm]; rfl
    have hLr : ∀ k ∈ reachP rit rv G rs r, 0 ≤ k ∧ k.toNat < G.length := by rw [hreach]; exact rcF_range G G.length hK _ _ _ (fun k hk => by simp at hk; subst hk; omega)
    have hLl : (reachP rit rv G rs r).length ≤ 100000 := by
      rw [hreach]
      have h1 := rcF_length G (rcM G (List.replicate G.length false) [r]) (List.replicate G.length false) [r]
      have h2 := left_le G (List.replicate G.length false) (by simp)
      unfold rcE
      unfold rcM at h1 ⊢
      simp at h1 ⊢
      omega
    have HR : Hid (usesP rit rv G rs r = usesF G (incr (List.replicate G.length 0) r) (reachP rit rv G rs r)) := by show _ = _; unfold usesP; rw [hm]; rfl
    have RE : Hid (∀ W, Below w.heap.size w W → Calls Tryd.prog 13 #[.agg #[.slice p G.length c, .slice pr rs.length cr], .int .i64 r] W fun e w' => ∃ v, e = .returned v ∧ OwnsI w' W.heap.size v (reachP rit rv G rs r) ∧ Below W.heap.size W w') := fun W hb => rReach_any Lo p pr c cr G rs r W (hG.on hb) hz (hI.on hb) hr
    generalize usesP rit rv G rs r = F at HR ⊢
    generalize reachP rit rv G rs r = L at *
    obtain ⟨rn, hrn⟩ : ∃ rn : Nat, r = rn := ⟨r.toNat, by omega⟩
    subst hrn
    have hrl : rn < G.length := by omega
    have hrl' : (rn : Int) < G.length := by omega
    clear hm hmm hreach Lo
    go_enter Tryd.func17, Tryd.ntmps17
    go_wp2_with (first | (go_at_call 18; (try rw [hw1]); refine MY.mono ?_; rintro e w2 ⟨rfl, hb2⟩; obtain ⟨g0, g1⟩ := cells w2 (hb2.block _ hlt); obtain ⟨w3, mk1, mk2, mk3, mk4⟩ := make_ints G.length (by omega) w2; obtain ⟨h0, h1⟩ := cells w3 ((mk3.block _ (by have := hb2.size; omega)).trans (hb2.block _ hlt)); have hB2 := hB.trans (hb2.mono hB.size); have hB3 := hB2.trans (mk3.mono hB2.size); have RE3 := RE.out w3 hB3) | (go_at_call 13; refine RE3.mono ?_; rintro e w4 ⟨v4, rfl, hO4, hb4⟩; obtain ⟨a4, k4, c4, rfl⟩ := ownsRow_form hO4; obtain ⟨hI4, rfl, hkc4, hcm4⟩ := is_of_row hO4; have u0 : w4.heap[w2.heap.size]? = _ := (hb4.block _ mk4).trans mk2; have cu : w4.cell? ⟨w2.heap.size, rn, none⟩ = some (.int .i64 0) := (by simp [World.cell?, u0, hrl]); have fu : w4.frozen? ⟨w2.heap.size, rn, none⟩ = false := (by simp [World.frozen?, u0])))
    have hlu : w2.heap.size < w3.heap.size := mk4
    have hsz2 := hb2.size
    have hsz3 := mk3.size
    have US0 : US w2 w2.heap.size w.heap.size #[.slice p G.length c, .slice pr rs.length cr] (List.replicate G.length 0) a4 L w4 :=
      ⟨mk3.trans (hb4.mono mk3.size), ((hb4.block _ (by omega)).trans ((mk3.block _ (by omega)).trans (hb2.block _ hlt))).trans b0, u0, hI4, fun x hx hl => by
        rcases hO4.2 with ⟨e, -⟩ | ⟨g, cap, cur, e, hbb, -⟩
        · simp only [Value.slice.injEq] at e
          rw [hx] at e
          cases e.1
        · simp only [Value.slice.injEq] at e
          rw [hx] at e
          have := e.1
          injection this with this
          rw [this]
          show g ≠ w2.heap.size
          omega⟩
    have US1 := US0.put (Nat.le_refl _) (by omega) (k := rn) (by simpa using hrl) 1
    have e0 : (List.replicate G.length (0 : Int)).set rn 1 = incr (List.replicate G.length 0) (rn : Int) := by
      unfold incr
      rw [Int.toNat_natCast]
      simp [iAt, hrl]
    rw [e0] at US1
    have hB24 : Below w.heap.size w w2 := hB2
    clear US0 e0 cu fu u0 hO4 hI4 RE MY mk1 mk2 RE3 hb4 g0 g1 h0 h1 f0 f1
    generalize w4.setCell ⟨w2.heap.size, rn, none⟩ (.int .i64 1) = w5 at US1 ⊢
    go_loopw [7] (fun ri wr => ∃ (i : Nat) (U : List Int), i ≤ L.length ∧ ri = .int .i64 i ∧ Hid (usesF G U (L.drop i) = F) ∧ Hid (U.length = G.length ∧ ∀ k, 0 ≤ iAt U k ∧ iAt U k ≤ 1 + (i : Int) * 30001) ∧ US w2 w2.heap.size w.heap.size #[.slice p G.length c, .slice pr rs.length cr] U a4 L wr) (fun ri _ => L.length - (RowKit.intOf ri).toNat)
    case atStart => exact ⟨0, _, Nat.zero_le _, rfl, by show _ = _; rw [List.drop_zero]; exact HR.out.symm, ⟨by rw [incr_len]; simp, fun k => by
      unfold incr iAt
      rw [Int.toNat_natCast, List.getElem?_set]
      by_cases hk : rn = k
      · subst hk
        simp [hrl]
      · rw [if_neg hk]
        by_cases hkl : k < G.length
        · simp [hkl]
        · rw [List.getElem?_eq_none (by simp; omega)]
          simp⟩, US1⟩
    case round =>
      clear US1 HR
      obtain ⟨i, U, hi, rfl, hE, hD, hU⟩ := hrel
      by_cases hli : i < L.length
      · obtain ⟨bl, ol, rfl, hcl⟩ := hU.is.at (by omega)
        have cl := hcl i hli
        have hmem : iAt L i ∈ L := by unfold iAt; rw [List.getElem?_eq_getElem hli]; exact List.getElem_mem _
        obtain ⟨hk0, hk1⟩ := hLr _ hmem
        obtain ⟨kn, hkn⟩ : ∃ kn : Nat, iAt L i = kn := ⟨(iAt L i).toNat, by omega⟩
        have hdr : L.drop i = (kn : Int) :: L.drop (i + 1) := by
          rw [List.drop_eq_getElem_cons hli, ← hkn]
          unfold iAt
          rw [List.getElem?_eq_getElem hli]
          rfl
        rw [hkn] at cl hk1
        rw [Int.toNat_natCast] at hk1
        have hE2 := hE.out
        rw [hdr] at hE2
        have hkd : kdN G (kn : Int) = (gAt G kn).kids := by unfold kdN; rw [Int.toNat_natCast]
        have hE3 : usesF G (incrs U (gAt G kn).kids) (L.drop (i + 1)) = F := by rw [← hE2, ← hkd]; rfl
        have hk1' : (kn : Int) < G.length := by omega
        have hli' : (i : Int) < L.length := by omega
        have hG2 := hG.on (hB24.trans (hU.bel.mono hB24.size))
        obtain ⟨b, o, rfl, hc⟩ := hG2.at_ (by omega)
        have hx := (hc kn hk1).c3
        have hkk := (hG.k kn hk1).is
        have hbx0 : wr.cell? ⟨w.heap.size, 0, none⟩ = some (.slice (some ⟨b, o, none⟩) G.length c) := by simp [World.cell?, hU.bx]
        have hkr : ∀ k ∈ (gAt G kn).kids, 0 ≤ k ∧ k.toNat < G.length := hK _ (gAt_mem hk1)
        have hkl : (gAt G kn).kids.length ≤ 20000 := by
          have h1 := sumK_step (G := G) (i := kn) hk1
          have h2 := sumK_take G (kn + 1)
          omega
        obtain ⟨hUl, hUb⟩ := hD.out
        have HE3 : Hid (usesF G (incrs U (gAt G kn).kids) (L.drop (i + 1)) = F) := hE3
        have HUB : Hid (∀ k, 0 ≤ iAt U k ∧ iAt U k ≤ 1 + (i : Int) * 30001) := hUb
        have HKR : Hid (∀ k ∈ (gAt G kn).kids, 0 ≤ k ∧ k.toNat < G.length) := hkr
        clear hE hE2 hE3 hD hkd hdr hcl hmem hkn hG2 hc hLr hUb hkr
        generalize (gAt G kn).q = q at hx hkk
        generalize (gAt G kn).kids = kids at *
        generalize (gAt G kn).c = ck at hx
        obtain ⟨wo, rfl⟩ : ∃ wo : World, wo = wr := ⟨_, rfl⟩
        go_wp2
        go_quiet (fail)
        go_wp2
        have hUq : US w2 w2.heap.size w.heap.size #[.slice (some ⟨b, o, none⟩) G.length c, .slice pr rs.length cr] U (some ⟨bl, ol, none⟩) L (wo.drewN nq) := ⟨below_drewN hU.bel nq, hU.bx, hU.un, hU.is.drewN nq, hU.ne⟩
        clear hU hx hbx0 cl
        generalize wo.drewN nq = wx at hUq ⊢
        go_loopw [9] (fun rj wr => ∃ (j : Nat) (U2 : List Int), j ≤ kids.length ∧ rj = .int .i64 j ∧ Hid (incrs U2 (kids.drop j) = incrs U kids) ∧ Hid (U2.length = G.length ∧ ∀ k, 0 ≤ iAt U2 k ∧ iAt U2 k ≤ 1 + (i : Int) * 30001 + j) ∧ US w2 w2.heap.size w.heap.size #[.slice (some ⟨b, o, none⟩) G.length c, .slice pr rs.length cr] U2 (some ⟨bl, ol, none⟩) L wr) (fun rj _ => kids.length - (RowKit.intOf rj).toNat)
        case atStart => exact ⟨0, U, Nat.zero_le _, rfl, rfl, ⟨hUl, fun k => by have := HUB.out k; omega⟩, hUq⟩
        case round =>
          clear hUq
          obtain ⟨j, U2, hj, rfl, hE4, hD4, hU4⟩ := hrel
          obtain ⟨hU2l, hU2b⟩ := hD4.out
          by_cases hjl : j < kids.length
          · have hI5 := hkk.on (hB24.trans (hU4.bel.mono hB24.size))
            obtain ⟨bq, oq, rfl, hcq⟩ := hI5.at (by omega)
            have cq := hcq j hjl
            have hkm : iAt kids j ∈ kids := by unfold iAt; rw [List.getElem?_eq_getElem hjl]; exact List.getElem_mem _
            obtain ⟨hq0, hq1⟩ := HKR.out _ hkm
            obtain ⟨un, hun⟩ : ∃ un : Nat, iAt kids j = un := ⟨(iAt kids j).toNat, by omega⟩
            rw [hun] at cq hq1
            rw [Int.toNat_natCast] at hq1
            obtain ⟨cu, fu⟩ := hU4.cell (k := un) (by omega)
            have hub := hU2b un
            have hq1' : (un : Int) < G.length := by omega
            have hjl' : (j : Int) < kids.length := by omega
            have hw : IntKind.i64.wrap (iAt U2 un + 1) = iAt U2 un + 1 := by simp [IntKind.wrap, IntKind.bits, IntKind.signed]; omega
            have hub1 : iAt U2 un ≤ 10000000000 := by omega
            have hub0 : 0 ≤ iAt U2 un := hub.1
            have P6 := hU4.put (Nat.le_refl _) (by omega) (k := un) (by omega) (iAt U2 un + 1)
            have e6 : U2.set un (iAt U2 un + 1) = incr U2 (un : Int) := by unfold incr; rw [Int.toNat_natCast]
            rw [e6] at P6
            have HE6 : Hid (incrs (incr U2 (un : Int)) (kids.drop (j + 1)) = incrs U kids) := by
              show _ = _
              rw [← hE4.out, List.drop_eq_getElem_cons hjl]
              have : kids[j] = (un : Int) := by rw [← hun]; unfold iAt; rw [List.getElem?_eq_getElem hjl]; rfl
              rw [this]
              rfl
            have HD6 : Hid ((incr U2 (un : Int)).length = G.length ∧ ∀ k, 0 ≤ iAt (incr U2 (un : Int)) k ∧ iAt (incr U2 (un : Int)) k ≤ 1 + (i : Int) * 30001 + (j + 1 : Nat)) := by
              refine ⟨by rw [incr_len]; exact hU2l, fun k => ?_⟩
              have hk2 := hU2b k
              rw [← e6]
              by_cases hku : un = k
              · subst hku
                have : iAt (U2.set un (iAt U2 un + 1)) un = iAt U2 un + 1 := by
                  conv => lhs; unfold iAt
                  rw [List.getElem?_set_self (by omega)]
                  rfl
                rw [this]
                omega
              · have : iAt (U2.set un (iAt U2 un + 1)) k = iAt U2 k := by
                  conv => lhs; unfold iAt
                  rw [List.getElem?_set_ne hku]
                  rfl
                rw [this]
                omega
            clear hE4 hD4 hU4 hU2b hcq hI5 hkm hun e6 HUB HKR HE3 hub
            generalize iAt U2 un = z at *
            go_wp2
            go_roundw
            case rel => exact ⟨j + 1, _, by omega, by go_num, HE6.out, HD6.out, P6⟩
            case measure => simp [RowKit.intOf]; omega
          · obtain rfl : j = kids.length := by omega
            have hU3 : U2 = incrs U kids := by rw [← hE4.out, List.drop_length]; rfl
            subst hU3
            have HD7 : Hid ((incrs U kids).length = G.length ∧ ∀ k, 0 ≤ iAt (incrs U kids) k ∧ iAt (incrs U kids) k ≤ 1 + ((i + 1 : Nat) : Int) * 30001) := ⟨hU2l, fun k => by have := hU2b k; omega⟩
            clear hE4 hD4 hU2b HUB HKR
            go_wp2
            go_roundw
            case rel => exact ⟨i + 1, incrs U kids, by omega, by go_num, HE3.out, HD7.out, hU4⟩
            case measure => simp [RowKit.intOf]; omega
      · obtain rfl : i = L.length := by omega
        have hFU : F = U := by rw [← hE.out, List.drop_length]; rfl
        obtain ⟨hUl, -⟩ := hD.out
        clear hE hD
        go_wp2
        go_ret
        refine ⟨_, rfl, ?_, hB24.trans (hU.bel.mono hB24.size)⟩
        rw [hFU]
        exact ⟨by simp, .inr ⟨w2.heap.size, G.length, _, by rw [hUl]; rfl, by have := hB24.size; omega, hU.un, by omega, by unfold maxLen; omega, by simp; omega, by rw [Nat.mul_one, List.take_of_length_le (by simp)]⟩⟩
end Go.Proofs.YtjfeamfchgcblaaDoor
