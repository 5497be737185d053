/- What GraphReach asks of what is met. -/
import Derived.Test.YtjfeamfchgcblaaDoorTls
set_option linter.all false
set_option maxRecDepth 100000
namespace Go.Proofs.YtjfeamfchgcblaaDoor

theorem may_in {rit rv : ByteArray → Bool} {G : List Gn} {rs : List Int} {r : Int} (h : mayP rit rv G rs r = true) : (0 ≤ r ∧ r.toNat < G.length) ∧ (∀ x ∈ G, ∀ k ∈ x.kids, 0 ≤ k ∧ k.toNat < G.length) ∧ reachP rit rv G rs r = rcE G (List.replicate G.length false) [r] := by
  have hm := h
  unfold mayP at hm
  rw [Bool.and_eq_true, decide_eq_true_iff] at hm
  obtain ⟨hK, -⟩ := right_kids hm.1
  exact ⟨⟨hm.2.1, by omega⟩, hK, by unfold reachP; rw [h, if_pos rfl]⟩
theorem reach_facts {rit rv : ByteArray → Bool} {G : List Gn} {rs : List Int} {a : Int} (h : mayP rit rv G rs a = true) :
    0 < (reachP rit rv G rs a).length ∧ iAt (reachP rit rv G rs a) 0 = a ∧
    (∀ j, j < (reachP rit rv G rs a).length → ∃ k : Nat, iAt (reachP rit rv G rs a) j = k ∧ k < G.length ∧ (k : Int) ∉ (reachP rit rv G rs a).take j ∧ ∀ m, m < (gAt G k).kids.length → iAt (gAt G k).kids m ∈ reachP rit rv G rs a) := by
  obtain ⟨hr, hK, e⟩ := may_in h
  obtain ⟨N, -⟩ := reach_met G a hr hK
  have e2 := rc_start hK hr
  rw [← e] at N e2
  refine ⟨by rw [e2]; simp, by rw [e2]; rfl, ?_⟩
  generalize reachP rit rv G rs a = L at N
  intro j hj
  have hm : iAt L j ∈ L := by unfold iAt; rw [List.getElem?_eq_getElem hj]; exact List.getElem_mem _
  obtain ⟨h0, h1⟩ := N.r _ hm
  refine ⟨(iAt L j).toNat, by omega, h1, ?_, fun m hm2 => ?_⟩
  · rw [Int.toNat_of_nonneg h0]
    intro hin
    obtain ⟨i, hi, e3⟩ := List.mem_iff_getElem.1 hin
    have hi2 : i < j := by simp at hi; omega
    rw [List.getElem_take] at e3
    refine List.pairwise_iff_getElem.1 N.nd i j (by omega) hj hi2 ?_
    rw [e3]
    unfold iAt
    rw [List.getElem?_eq_getElem hj]
    rfl
  · refine N.cl _ hm _ ?_
    show _ ∈ (gAt G (iAt L j).toNat).kids
    generalize (gAt G (iAt L j).toNat).kids = K at hm2 ⊢
    unfold iAt
    rw [List.getElem?_eq_getElem hm2]
    exact List.getElem_mem _
theorem reach_trans {rit rv : ByteArray → Bool} {G : List Gn} {rs : List Int} {a b : Int} (ha : mayP rit rv G rs a = true) (hb : mayP rit rv G rs b = true) (h : b ∈ reachP rit rv G rs a) :
    (∀ j, j < (reachP rit rv G rs b).length → iAt (reachP rit rv G rs b) j ∈ reachP rit rv G rs a) ∧ (cycP rit rv G rs b = true → cycP rit rv G rs a = true) := by
  have sub : ∀ u ∈ reachP rit rv G rs b, u ∈ reachP rit rv G rs a := by
    obtain ⟨hr, hK, e⟩ := may_in ha
    obtain ⟨hr2, -, e2⟩ := may_in hb
    rw [e] at h ⊢
    rw [e2]
    intro u hu
    have h1 := ((reach_met G a hr hK).2 b).1 h
    have h2 := ((reach_met G b hr2 hK).2 u).1 hu
    refine ((reach_met G a hr hK).2 u).2 ?_
    rcases h1 with rfl | h1
    · exact h2
    · rcases h2 with rfl | h2
      · exact .inr h1
      · exact .inr (h1.trans h2)
  refine ⟨fun j hj => sub _ ?_, fun hc => ?_⟩
  · unfold iAt
    rw [List.getElem?_eq_getElem hj]
    exact List.getElem_mem _
  · obtain ⟨-, k, hk, hp⟩ := cyc_iff.1 hc
    exact cyc_iff.2 ⟨ha, k, sub k hk, hp⟩
end Go.Proofs.YtjfeamfchgcblaaDoor
