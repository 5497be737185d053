/- The document's reach, as it runs. -/
import Derived.Test.YtjfeamfchgcblaaDoorGrc
set_option linter.all false
set_option maxRecDepth 100000
namespace Go.Proofs.YtjfeamfchgcblaaDoor
open Go.RowKit

def bV : Value → Bool
  | .bool b => b
  | _ => false
def snW (wr : World) (sb : Nat) : List Bool := match wr.heap[sb]? with | some (.cells cs _ _) => cs.toList.map bV | _ => []
def lenS : Value → Nat
  | .slice _ n _ => n
  | _ => 0
theorem snW_of {wr : World} {sb : Nat} {Sn : List Bool} (h : wr.heap[sb]? = some (.cells (Sn.map Value.bool).toArray 4)) : snW wr sb = Sn := by
  unfold snW
  rw [h]
  simp
  rw [show (bV ∘ Value.bool) = id from rfl]
  simp
theorem sn_cell {wr : World} {sb : Nat} {Sn : List Bool} (h : wr.heap[sb]? = some (.cells (Sn.map Value.bool).toArray 4)) {k : Nat} (hk : k < Sn.length) : wr.cell? ⟨sb, k, none⟩ = some (.bool (Sn[k]?.getD false)) ∧ wr.frozen? ⟨sb, k, none⟩ = false := by
  constructor
  · simp [World.cell?, h, hk]
  · simp [World.frozen?, h]
theorem last_split {td : List Int} {m : Nat} (h : td.length = m + 1) : td.reverse = iAt td m :: (td.take m).reverse := by
  have e : td = td.take m ++ [iAt td m] := by
    conv => lhs; rw [← List.take_append_drop m td]
    congr 1
    rw [List.drop_eq_getElem_cons (by omega), List.drop_eq_nil_of_le (by omega)]
    unfold iAt
    rw [List.getElem?_eq_getElem (by omega)]
    rfl
  rw [e]
  simp
  rw [← e]
  exact ⟨rfl, rfl⟩
set_option maxHeartbeats 1600000 in
theorem rreach_any (w0 w : World) (p pr : Option Addr) (c nr cr cs sb : Nat) (G : List Gn) (S : List Bool) (root : Int) (hG : Gs w0 p G) (hw0 : Below w0.heap.size w0 w) (ha : w0.heap.size ≤ sb) (hb : sb < w.heap.size)
    (hS : w.heap[sb]? = some (.cells (S.map Value.bool).toArray 4)) (hSl : S.length = G.length) (hn : G.length ≤ 1000) (hr : 0 ≤ root ∧ root.toNat < G.length) (hK : ∀ x ∈ G, ∀ k ∈ x.kids, 0 ≤ k ∧ k.toNat < S.length) (hM : rcM G S [root] ≤ 100000000) :
    Calls Tryd.prog 26 #[grV p G.length c pr nr cr, .slice (some ⟨sb, 0, none⟩) G.length cs, .int .i64 root] w fun e w' => ∃ v, e = .returned v ∧ OwnsI w' w.heap.size v (rcE G S [root]) ∧ w.grownBy w' (some sb) ∧ Below w0.heap.size w0 w' := by
  unfold grV
  obtain ⟨F, hF⟩ : ∃ F, rcE G S [root] = F := ⟨_, rfl⟩
  have HF : Hid (rcE G S [root] = F) := hF
  rw [hF]
  clear hF
  have hRB : RB w0 w (w.heap.size + 1) sb w.heap.size := ⟨ha, hb, rfl, rfl⟩
  have P0 : RS w0 w (w.heap.size + 1) sb w.heap.size #[.slice p G.length c, .slice pr nr cr] S [root] [] (.slice (some ⟨w.heap.size + 1, 0, none⟩) 1 1) (.slice none 0 0) ((w.alloc (.cells #[.slice p G.length c, .slice pr nr cr] 25)).alloc (.cells #[.int .i64 root] 3)) := by
    have b1 : (w.alloc (.cells #[.slice p G.length c, .slice pr nr cr] 25)).heap.size = w.heap.size + 1 := by simp
    refine ⟨(hw0.alloc (hw0.size) _).alloc (by simp; have := hw0.size; omega) _, ⟨rfl, rfl, rfl, by simp; omega, fun k hk _ => ?_⟩, by simp, ?_, ?_, ?_, ⟨rfl, .inl ⟨rfl, rfl⟩⟩, fun g _ => by simp [Value.ownBlock]⟩
    · exact (Below.heap_alloc _ _ k (by simp; omega)).trans (Below.heap_alloc w _ k hk)
    · exact (Below.heap_alloc _ _ _ (by simp)).trans (World.alloc_heap_new w _)
    · exact (Below.heap_alloc _ _ sb (by simp; omega)).trans ((Below.heap_alloc w _ sb hb).trans hS)
    · refine ⟨rfl, .inr ⟨w.heap.size + 1, 1, _, rfl, Nat.le_refl _, by rw [← b1]; exact World.alloc_heap_new _ _, by simp, by unfold maxLen; simp, rfl, rfl⟩⟩
  go_enter Tryd.func26, Tryd.ntmps26
  go_wp2
  go_loopw [7, 8] (fun rvo rvt wr => ∃ (Sn : List Bool) (td out : List Int) (gt ct : Nat) (ao : Option Addr) (ko co : Nat), rvt = .slice (some ⟨gt, 0, none⟩) td.length ct ∧ rvo = .slice ao ko co ∧ Hid (out ++ rcE G Sn td.reverse = F) ∧ Hid (Sn.length = G.length ∧ (∀ k ∈ td, 0 ≤ k ∧ k.toNat < G.length) ∧ rcM G Sn td.reverse + out.length ≤ 100000000) ∧ RS w0 w (w.heap.size + 1) sb w.heap.size #[.slice p G.length c, .slice pr nr cr] Sn td out (.slice (some ⟨gt, 0, none⟩) td.length ct) (.slice ao ko co) wr) (fun rvo rvt wr => left G (snW wr sb) + lenS rvt)
  case atStart => exact ⟨S, [root], [], w.heap.size + 1, 1, none, 0, 0, rfl, rfl, HF.out, ⟨hSl, fun k hk => by simp at hk; subst hk; exact hr, by simpa using hM⟩, P0⟩
  case round =>
    clear P0 HF
    obtain ⟨Sn, td, out, gt, ct, ao, ko, co, rfl, rfl, hE, hD, hP⟩ := hrel
    obtain ⟨hD1, hD2, hD3⟩ := hD.out
    by_cases h0 : td.length = 0
    · have htd : td = [] := List.eq_nil_of_length_eq_zero h0
      subst htd
      have hFo : F = out := by rw [← hE.out]; simp [rcE_nil]
      clear hE hD
      go_wp2
      go_ret
      exact ⟨_, rfl, by rw [hFo]; exact ownsRow_mono hP.o (by omega), hP.fr, hP.bel⟩
    · obtain ⟨m, hm⟩ : ∃ m, td.length = m + 1 := ⟨td.length - 1, by omega⟩
      obtain ⟨hIt, -, hlc, hcm⟩ := is_of_row hP.t
      obtain ⟨bb, oo, ebb, hcell⟩ := hIt.at (by omega)
      cases ebb
      have c1 := hcell m (by omega)
      rw [Nat.zero_add] at c1
      have hkm : iAt td m ∈ td := by unfold iAt; rw [List.getElem?_eq_getElem (by omega)]; exact List.getElem_mem _
      obtain ⟨hk0, hk1⟩ := hD2 _ hkm
      have hsp := last_split hm
      have hT' : ∀ j ∈ (td.take m).reverse, 0 ≤ j ∧ j.toNat < Sn.length := fun j hj => by rw [hD1]; exact hD2 j (List.mem_of_mem_take (List.mem_reverse.1 hj))
      have hK' : ∀ x ∈ G, ∀ k ∈ x.kids, 0 ≤ k ∧ k.toNat < Sn.length := fun x hx k hk => by rw [hD1, ← hSl]; exact hK x hx k hk
      obtain ⟨s1, s2⟩ := sn_cell hP.sn (k := (iAt td m).toNat) (by omega)
      have hpop := ownsI_pop hP.t m (by omega)
      have SL := slice_to (some ⟨gt, 0, none⟩) td.length ct m (by omega)
      have hmc : (m : Int) ≤ ct := by omega
      rw [hm] at hP SL
      rw [hm]
      have hPp : RS w0 w (w.heap.size + 1) sb w.heap.size #[.slice p G.length c, .slice pr nr cr] Sn (td.take m) out (.slice (some ⟨gt, 0, none⟩) m ct) (.slice ao ko co) wr := ⟨hP.bel, hP.fr, hP.nw, hP.bx, hP.sn, hpop, hP.o, hP.ap⟩
      have htl : (td.take m).length = m := by rw [List.length_take]; omega
      have hE2 := hE.out
      rw [hsp] at hE2
      have hD4 := hD3
      rw [hsp] at hD4
      have HD2 : Hid (∀ k ∈ td, 0 ≤ k ∧ k.toNat < G.length) := hD2
      obtain ⟨kn, hkn⟩ : ∃ kn : Nat, iAt td m = kn := ⟨(iAt td m).toNat, by omega⟩
      have hkt : (kn : Int).toNat = kn := by omega
      rw [hkn] at c1 hE2 hD4 hk1
      rw [hkn, hkt] at s1 s2
      rw [hkt] at hk1
      have hk1' : (kn : Int) < G.length := by omega
      have hmb : (m : Int) ≤ 100000000 := by unfold rcM at hD3; simp at hD3; omega
      have hm2 : ((m + 1 : Nat) : Int) - 1 = m := by omega
      have hm3 : (m : Int) < ((m + 1 : Nat) : Int) := by omega
      have HSW : Hid (snW wr sb = Sn) := snW_of hP.sn
      clear hcell hIt hkm hsp hpop hD2 hE hD h0 hm hkn
      generalize htd' : td.take m = td' at *
      have HD2' : Hid (∀ k ∈ td', 0 ≤ k ∧ k.toNat < G.length) := fun k hk => HD2.out k (List.mem_of_mem_take (htd' ▸ hk))
      cases hsn : (Sn[kn]?.getD false) with
      | true =>
        have hsa : snAt Sn (kn : Int) = true := by unfold snAt; rw [hkt]; exact hsn
        rw [rcE_seen hT' hK' hsa] at hE2
        have hD5 : rcM G Sn td'.reverse + out.length ≤ 100000000 := by unfold rcM at hD4 ⊢; simp at hD4 ⊢; omega
        rw [hsn] at s1
        have HE2 : Hid (out ++ rcE G Sn td'.reverse = F) := hE2
        have hPp2 : RS w0 w (w.heap.size + 1) sb w.heap.size #[.slice p G.length c, .slice pr nr cr] Sn td' out (.slice (some ⟨gt, 0, none⟩) td'.length ct) (.slice ao ko co) wr := by rw [htl]; exact hPp
        clear hE2 hD4 hsn hsa HD2 hT' hK' htd' hPp
        go_wp2
        go_roundw
        case rel => exact ⟨Sn, td', out, gt, ct, ao, ko, co, by rw [htl], rfl, HE2.out, ⟨hD1, HD2'.out, hD5⟩, hPp2⟩
        case measure => simp [lenS]
      | false =>
        have hsa : snAt Sn (kn : Int) = false := by unfold snAt; rw [hkt]; exact hsn
        obtain ⟨e1, e2⟩ := rcE_new (G := G) (S := Sn) (k := (kn : Int)) (T := td'.reverse) (by omega) (by rw [hkt, hD1]; exact hk1) hT' hK' hsa
        rw [e1] at hE2
        rw [hkt] at hE2 e2
        have ek : kdN G (kn : Int) = (gAt G kn).kids := by unfold kdN; rw [hkt]
        rw [ek] at hE2 e2
        rw [hsn] at s1
        have P1 := hPp.see hRB kn (by omega)
        have hol : out.length ≤ 100000000 := by omega
        obtain ⟨go, co2, wb, hrunO, P2⟩ := P1.pushO hRB (by omega) (kn : Int)
        have hG2 := hG.on P2.bel
        obtain ⟨b, o, rfl, hc⟩ := hG2.at_ (by omega)
        have hx := (hc kn hk1).c3
        have hbx0 : wb.cell? ⟨w.heap.size, 0, none⟩ = some (.slice (some ⟨b, o, none⟩) G.length c) := by simp [World.cell?, P2.bx]
        have hkk := (hG.k kn hk1).is
        have hkb : (gAt G kn).kids.length + m ≤ 100000000 := by
          unfold rcM at e2 hD4
          rw [List.length_append, List.length_reverse, htl] at e2
          simp [htl] at hD4 e2
          omega
        have HE2 : Hid (out ++ (kn : Int) :: rcE G (Sn.set kn true) ((gAt G kn).kids ++ td'.reverse) = F) := hE2
        have HEM : Hid (rcM G (Sn.set kn true) ((gAt G kn).kids ++ td'.reverse) < rcM G Sn ((kn : Int) :: td'.reverse)) := e2
        have HD4 : Hid (rcM G Sn ((kn : Int) :: td'.reverse) + out.length ≤ 100000000) := hD4
        have HKG : Hid (∀ k ∈ (gAt G kn).kids, 0 ≤ k ∧ k.toNat < G.length) := fun k hk => by have := hK _ (gAt_mem hk1) k hk; rw [hSl] at this; exact this
        clear hE2 e1 e2 hD4 hsn hsa HD2 hT' hK' htd' ek hG2 hc P1 hPp hD3
        obtain ⟨wv, hwv⟩ : ∃ wv, wr.setCell ⟨sb, kn, none⟩ (.bool true) = wv := ⟨_, rfl⟩
        rw [hwv] at hrunO
        generalize (gAt G kn).q = q at hx hkk
        generalize (gAt G kn).kids = kids at *
        generalize (gAt G kn).c = ck at hx
        go_wp2_with (first | (at_builtin; (try rw [hwv]); refine wpList_append_run rfl _ _ 23 rfl rfl rfl hrunO ?_))
        have P3 : RS w0 w (w.heap.size + 1) sb w.heap.size #[.slice (some ⟨b, o, none⟩) G.length c, .slice pr nr cr] (Sn.set kn true) td' (out ++ [(kn : Int)]) (.slice (some ⟨gt, 0, none⟩) td'.length ct) (.slice (some ⟨go, 0, none⟩) (out.length + 1) co2) wb := by rw [htl]; exact P2
        clear P2 hrunO hbx0 hx
        have hkl : (kids.length : Int) ≤ 100000000 := by omega
        obtain ⟨wo, rfl⟩ : ∃ wo : World, wo = wb := ⟨_, rfl⟩
        go_loopw [8, 11] (fun rvt ri wr2 => ∃ (j : Nat) (td2 : List Int) (g2 c2 : Nat), j ≤ kids.length ∧ ri = .int .i64 ((j : Int) - 1) ∧ rvt = .slice (some ⟨g2, 0, none⟩) td2.length c2 ∧ Hid (td2 = td' ++ (kids.drop j).reverse) ∧ RS w0 w (w.heap.size + 1) sb w.heap.size #[.slice (some ⟨b, o, none⟩) G.length c, .slice pr nr cr] (Sn.set kn true) td2 (out ++ [(kn : Int)]) (.slice (some ⟨g2, 0, none⟩) td2.length c2) (.slice (some ⟨go, 0, none⟩) (out.length + 1) co2) wr2) (fun _ ri _ => (RowKit.intOf ri + 1).toNat)
        case atStart => exact ⟨kids.length, td', gt, ct, Nat.le_refl _, rfl, by rw [htl], by show _ = _; rw [List.drop_length]; simp, P3⟩
        case round =>
          clear P3
          obtain ⟨j, td2, g2, c2, hj, rfl, rfl, ht2, hP2⟩ := hrel
          by_cases hj0 : j = 0
          · subst hj0
            have e3 : ((0 : Nat) : Int) - 1 = -1 := by omega
            have ht3 := ht2.out
            rw [List.drop_zero] at ht3
            have hrev : td2.reverse = kids ++ td'.reverse := by rw [ht3, List.reverse_append, List.reverse_reverse]
            have HE3 : Hid ((out ++ [(kn : Int)]) ++ rcE G (Sn.set kn true) td2.reverse = F) := by
              show _ = _
              rw [hrev, List.append_assoc]
              exact HE2.out
            have HD3 : Hid ((Sn.set kn true).length = G.length ∧ (∀ k ∈ td2, 0 ≤ k ∧ k.toNat < G.length) ∧ rcM G (Sn.set kn true) td2.reverse + (out ++ [(kn : Int)]).length ≤ 100000000) := by
              refine ⟨by rw [List.length_set]; exact hD1, fun k hk => ?_, ?_⟩
              · rw [ht3] at hk
                rcases List.mem_append.1 hk with h | h
                · exact HD2'.out k h
                · exact HKG.out k (List.mem_reverse.1 h)
              · rw [hrev, List.length_append]
                have := HEM.out
                have := HD4.out
                simp
                omega
            have hMS : left G (snW wr sb) + td2.length < left G Sn + (m + 1) := by
              rw [snW_of hP2.sn]
              have h1 := HEM.out
              unfold rcM at h1
              rw [← hrev, List.length_reverse, List.length_cons, List.length_reverse, htl] at h1
              exact h1
            clear ht2 HE2 HEM HD4 HKG HD2'
            go_wp2
            go_roundw
            case rel => exact ⟨Sn.set kn true, td2, out ++ [(kn : Int)], g2, c2, _, _, _, rfl, rfl, HE3.out, HD3.out, hP2⟩
            case measure =>
              rw [HSW.out]
              simpa [lenS] using hMS
          · obtain ⟨j', rfl⟩ : ∃ j', j = j' + 1 := ⟨j - 1, by omega⟩
            have hI3 := hkk.on hP2.bel
            obtain ⟨bq, oq, rfl, hcq⟩ := hI3.at (by omega)
            have cq := hcq j' (by omega)
            have hj1 : (((j' + 1 : Nat) : Int) - 1) = j' := by omega
            have hj2 : (j' : Int) < kids.length := by omega
            have hj3 : ¬ (j' : Int) < 0 := by omega
            have htd2 : td2.length ≤ 100000000 := by rw [ht2.out, List.length_append, List.length_reverse, List.length_drop]; omega
            obtain ⟨g3, c3, w3, hrunT, P4⟩ := hP2.pushT hRB (by omega) (iAt kids j')
            have HT3 : Hid (td2 ++ [iAt kids j'] = td' ++ (kids.drop j').reverse) := by
              show _ = _
              have e4 : kids.drop j' = iAt kids j' :: kids.drop (j' + 1) := by
                rw [List.drop_eq_getElem_cons (by omega)]
                unfold iAt
                rw [List.getElem?_eq_getElem (by omega)]
                rfl
              rw [ht2.out, e4, List.reverse_cons, List.append_assoc]
            have P5 : RS w0 w (w.heap.size + 1) sb w.heap.size #[.slice (some ⟨b, o, none⟩) G.length c, .slice pr nr cr] (Sn.set kn true) (td2 ++ [iAt kids j']) (out ++ [(kn : Int)]) (.slice (some ⟨g3, 0, none⟩) (td2 ++ [iAt kids j']).length c3) (.slice (some ⟨go, 0, none⟩) (out.length + 1) co2) w3 := by rw [List.length_append]; exact P4
            clear ht2 HE2 HEM HD4 HKG HD2' hcq hI3 P4 hP2
            go_wp2_with (first | (at_builtin; refine wpList_append_run rfl _ _ 23 rfl rfl rfl hrunT ?_))
            go_roundw
            case rel => exact ⟨j', td2 ++ [iAt kids j'], g3, c3, by omega, by first | rfl | go_num, by rw [List.length_append]; rfl, HT3.out, P5⟩
            case measure => simp [RowKit.intOf]
end Go.Proofs.YtjfeamfchgcblaaDoor
