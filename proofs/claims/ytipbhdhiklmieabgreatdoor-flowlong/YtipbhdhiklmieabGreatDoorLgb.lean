/- A long key in a list and in a mapping, in plain terms. -/
import Derived.Test.YtipbhdhiklmieabGreatDoorLga
set_option linter.unusedVariables false
set_option linter.unusedSimpArgs false
namespace Go.Proofs.YtipbhdhiklmieabGreatDoor
open Go.RowKit Go.Shelf
section
variable {t : List Int} {d : Int} {k n : Nat} {e : Int}
theorem Kv.sgn (h : Kv t k n e) (s : St) : sgnW orc (one t) s ⟨0, k + n⟩ = true := by
  have hl := h.len
  have hal : aloW orc (one t) ⟨0, k + n⟩ 58 = true := by
    unfold aloW
    rw [sta_here (by omega), h.col]
    have hh : hd (one t) ((⟨0, k + n⟩ : Pl).plus 1) = 32 := by
      show hd (one t) ⟨0, k + n + 1⟩ = 32
      rw [hd_one (by omega), h.bla]
    rw [hh, show orc.name 32 = false by decide]
    simp
  unfold sgnW
  rw [hal]
  rfl
/-- The value behind the key. -/
theorem Kv.valW (h : Kv t k n e) (he : e = 93 ∨ e = 125) {s : St} {l : Lv} {r : List Lv} (hp : s.p = ⟨0, k + n⟩) (hop : s.op = l :: r) (hn : l.nx = 2) (hc : l.cl = e) (x : Int) :
    stpW orc (one t) x d false s = .ok (scaW orc { s with op := { l with nx := if l.pr then 3 else 4 } :: r, p := ⟨0, k + n + 3⟩ } hs0 (orc.fold [(t.drop (k + n + 2)).take 1]) 1) := by
  have hl := h.len
  have e0 : stpW orc (one t) x d false s = Go.Proofs.YtipbhdhiklmieabGreatDoor.valW orc (one t) x d false s l := by
    unfold stpW
    rw [hop]
    dsimp only
    rw [if_neg (by rw [hn]; decide), if_neg (by rw [hn]; decide), if_pos hn]
  have hgo : gonW orc (one t) x ((⟨0, k + n⟩ : Pl).plus 1) = .ok ⟨0, k + n + 2⟩ := by
    show gonW orc (one t) x ⟨0, k + n + 1⟩ = _
    unfold gonW
    rw [nex_blank (by omega) h.bla (by rw [h.val]; decide) (by rw [h.val]; decide)]
  have htop : (topS s fun l => { l with nx := if l.pr then 3 else 4 }) = { s with op := { l with nx := if l.pr then 3 else 4 } :: r } := by
    unfold topS
    rw [hop]
  rw [e0]
  unfold Go.Proofs.YtipbhdhiklmieabGreatDoor.valW
  rw [hp, gon_here (by omega) (by rw [h.col]; decide) (by rw [h.col]; decide)]
  dsimp only
  rw [htop, h.sgn, if_neg (by decide), hgo]
  dsimp only
  unfold entEnds
  dsimp only
  rw [sta_here (by omega), sta_here (by omega), h.val, hc]
  rw [if_neg (by rcases he with rfl | rfl <;> decide)]
  exact (h.value he).begW rfl (by simp) x
/-- The end of all. -/
theorem Kv.comW (h : Kv t k n e) (he : e = 93 ∨ e = 125) {s : St} {l : Lv} (hp : s.p = ⟨0, k + n + 3⟩) (hop : s.op = [l]) (hn : l.nx = 4) (hc : l.cl = e) (x : Int) :
    stpW orc (one t) x d false s = .ok (cloS { s with p := ⟨0, k + n + 4⟩ }) := by
  have hl := h.len
  have e0 : stpW orc (one t) x d false s = Go.Proofs.YtipbhdhiklmieabGreatDoor.comW orc (one t) x s l := by
    unfold stpW
    rw [hop]
    dsimp only
    rw [if_neg (by rw [hn]; decide), if_neg (by rw [hn]; decide), if_neg (by rw [hn]; decide), if_neg (by rw [hn]; decide)]
  rw [e0]
  unfold Go.Proofs.YtipbhdhiklmieabGreatDoor.comW
  rw [hp, gon_here hl (by rw [h.cl]; rcases he with rfl | rfl <;> decide) (by rw [h.cl]; rcases he with rfl | rfl <;> decide)]
  dsimp only
  rw [sta_here hl, sta_here hl, h.cl, hc]
  rw [if_neg (by rcases he with rfl | rfl <;> decide), if_pos (by simp)]
  rfl
theorem run_1 {x : Int} {s s1 : St} {l : Lv} {r : List Lv} {f : Nat} (h : s.op = l :: r) (e : stpW orc (one t) x d false s = .ok s1) : runW orc (one t) x d false (f + 1) s = runW orc (one t) x d false f s1 := by
  rw [runW, h]
  dsimp only
  rw [e]
theorem run_0 {x : Int} {s : St} (h : s.op = []) (f : Nat) : runW orc (one t) x d false f s = some (.ok s) := by
  cases f <;> rw [runW, h]
/-- A mapping of one pair. -/
theorem Kv.brc (h : Kv t 1 n 125) (x : Int) : ∃ f s, runW orc (one t) x 0 false f ⟨⟨0, 1⟩, [⟨125, false, 0, 0, 0, 0, 0⟩], [⟨5, ⟨#[]⟩, hs0.tg, hs0.an, 0, true⟩], 0⟩ = some (.ok s) := by
  have hl := h.len
  have h1 : Ltr (iAt t 1) := (h.key true).hd
  obtain ⟨l1, -, -, -, -, l6⟩ := h1.is
  unfold Ltr at h1
  have e1 : stpW orc (one t) x 0 false ⟨⟨0, 1⟩, [⟨125, false, 0, 0, 0, 0, 0⟩], [⟨5, ⟨#[]⟩, hs0.tg, hs0.an, 0, true⟩], 0⟩ = .ok (scaW orc ⟨⟨0, 1 + n⟩, [⟨125, false, 2, 0, 0, 0, 0⟩], [⟨5, ⟨#[]⟩, hs0.tg, hs0.an, 0, true⟩], 0⟩ hs0 (orc.fold [(t.drop 1).take n]) 1) := by
    show entW orc (one t) x 0 false _ _ = _
    unfold entW
    rw [gon_here (by omega) l1 l6]
    dsimp only
    rw [sta_here (by omega), alo_no (by omega) (by omega), if_neg (by simp; omega), if_neg (by decide), if_pos rfl]
    exact (h.key true).begW rfl rfl x
  have e2 := h.valW (d := 0) (.inr rfl) (s := scaW orc ⟨⟨0, 1 + n⟩, [⟨125, false, 2, 0, 0, 0, 0⟩], [⟨5, ⟨#[]⟩, hs0.tg, hs0.an, 0, true⟩], 0⟩ hs0 (orc.fold [(t.drop 1).take n]) 1) (l := ⟨125, false, 2, 0, 0, 0, 0⟩) (r := []) rfl rfl rfl rfl x
  refine ⟨3, _, (run_1 rfl e1).trans ((run_1 rfl e2).trans ((run_1 rfl (h.comW (.inr rfl) rfl rfl rfl rfl x)).trans (run_0 rfl 0)))⟩
/-- A pair in a list. -/
theorem Kv.ent (h : Kv t 1 n 93) (x : Int) : stpW orc (one t) x 0 false ⟨⟨0, 1⟩, [⟨93, false, 0, 0, 0, 0, 0⟩], [⟨3, ⟨#[]⟩, hs0.tg, hs0.an, 0, true⟩], 0⟩ = .ok (scaW orc ⟨⟨0, 1 + n⟩, [⟨93, false, 1, 0, 1, 1, 0⟩], [⟨3, ⟨#[]⟩, hs0.tg, hs0.an, 0, true⟩, ev0], 0⟩ hs0 (orc.fold [(t.drop 1).take n]) 1) := by
  have hl := h.len
  have h1 : Ltr (iAt t 1) := (h.key true).hd
  obtain ⟨l1, -, -, -, -, l6⟩ := h1.is
  unfold Ltr at h1
  show entW orc (one t) x 0 false _ _ = _
  unfold entW
  rw [gon_here (by omega) l1 l6]
  dsimp only
  rw [sta_here (by omega), alo_no (by omega) (by omega), if_neg (by simp; omega), if_neg (by decide), if_neg (by decide)]
  exact (h.key true).begW rfl rfl x
theorem Kv.ite (h : Kv t 1 n 93) (x : Int) (T : List Int) : stpW orc (one t) x 0 false (scaW orc ⟨⟨0, 1 + n⟩, [⟨93, false, 1, 0, 1, 1, 0⟩], [⟨3, ⟨#[]⟩, hs0.tg, hs0.an, 0, true⟩, ev0], 0⟩ hs0 T 1) =
    .ok (if n > 1024 then topS (scaW orc ⟨⟨0, 1 + n⟩, [⟨93, false, 1, 0, 1, 1, 0⟩], [⟨3, ⟨#[]⟩, hs0.tg, hs0.an, 0, true⟩, ev0], 0⟩ hs0 T 1) (fun l => { l with nx := 4 })
      else ⟨⟨0, 1 + n⟩, [⟨93, true, 2, 0, 0, 0, 0⟩, ⟨93, false, 4, 0, 1, 1, 0⟩], [⟨3, ⟨#[]⟩, hs0.tg, hs0.an, 0, true⟩, evP, ⟨7, orc.text T, hs0.tg, hs0.an, 1, false⟩], 0⟩) := by
  have hl := h.len
  show iteW orc (one t) x 0 _ _ = _
  unfold iteW
  rw [show (scaW orc ⟨⟨0, 1 + n⟩, [⟨93, false, 1, 0, 1, 1, 0⟩], [⟨3, ⟨#[]⟩, hs0.tg, hs0.an, 0, true⟩, ev0], 0⟩ hs0 T 1).p = ⟨0, 1 + n⟩ from rfl]
  rw [nex_here (by omega) (by rw [h.col]; decide) (by rw [h.col]; decide)]
  dsimp only
  rw [h.sgn]
  by_cases hn : n > 1024
  · rw [if_pos hn, if_pos (.inr (.inr (by show ((1 + n : Nat) : Int) - ((1 : Nat) : Int) > 1024; omega)))]
  · rw [if_neg hn, if_neg (by
      rintro (h | h | h)
      · cases h
      · exact h rfl
      · have h : ((1 + n : Nat) : Int) - ((1 : Nat) : Int) > 1024 := h
        omega)]
    rw [if_neg (by show ¬ decide ((0 : Int) + ((1 : Nat) : Int) + ((0 : Nat) : Int) ≥ 200) = true; decide)]
    rfl
theorem Kv.brk (h : Kv t 1 n 93) (hn : n ≤ 1024) (x : Int) : ∃ f s, runW orc (one t) x 0 false f ⟨⟨0, 1⟩, [⟨93, false, 0, 0, 0, 0, 0⟩], [⟨3, ⟨#[]⟩, hs0.tg, hs0.an, 0, true⟩], 0⟩ = some (.ok s) ∧ (s.to.filter nz).length = 6 := by
  have e1 := h.ent x
  have e2 := h.ite x (orc.fold [(t.drop 1).take n])
  rw [if_neg (by omega)] at e2
  have e3 := h.valW (d := 0) (.inl rfl) (s := ⟨⟨0, 1 + n⟩, [⟨93, true, 2, 0, 0, 0, 0⟩, ⟨93, false, 4, 0, 1, 1, 0⟩], [⟨3, ⟨#[]⟩, hs0.tg, hs0.an, 0, true⟩, evP, ⟨7, orc.text (orc.fold [(t.drop 1).take n]), hs0.tg, hs0.an, 1, false⟩], 0⟩) (l := ⟨93, true, 2, 0, 0, 0, 0⟩) (r := [⟨93, false, 4, 0, 1, 1, 0⟩]) rfl rfl rfl rfl x
  refine ⟨5, _, (run_1 rfl e1).trans ((run_1 rfl e2).trans ((run_1 rfl e3).trans ((run_1 rfl (s1 := cloS _) rfl).trans ((run_1 rfl (h.comW (.inl rfl) rfl rfl rfl rfl x)).trans (run_0 rfl 0))))), ?_⟩
  rfl
theorem Kv.brkL (h : Kv t 1 n 93) (hn : n > 1024) (x : Int) : ∃ f, runW orc (one t) x 0 false f ⟨⟨0, 1⟩, [⟨93, false, 0, 0, 0, 0, 0⟩], [⟨3, ⟨#[]⟩, hs0.tg, hs0.an, 0, true⟩], 0⟩ = some (.error 2) := by
  have hl := h.len
  have e1 := h.ent x
  have e2 := h.ite x (orc.fold [(t.drop 1).take n])
  rw [if_pos hn] at e2
  obtain ⟨s, hs, hp, hop⟩ : ∃ s : St, s = topS (scaW orc ⟨⟨0, 1 + n⟩, [⟨93, false, 1, 0, 1, 1, 0⟩], [⟨3, ⟨#[]⟩, hs0.tg, hs0.an, 0, true⟩, ev0], 0⟩ hs0 (orc.fold [(t.drop 1).take n]) 1) (fun l => { l with nx := 4 }) ∧ s.p = ⟨0, 1 + n⟩ ∧ s.op = [⟨93, false, 4, 0, 1, 1, 0⟩] := ⟨_, rfl, rfl, rfl⟩
  rw [← hs] at e2
  have e3 : stpW orc (one t) x 0 false s = .error 2 := by
    unfold stpW
    rw [hop]
    dsimp only
    rw [if_neg (by decide), if_neg (by decide), if_neg (by decide), if_neg (by decide)]
    unfold Go.Proofs.YtipbhdhiklmieabGreatDoor.comW
    rw [hp, gon_here (by omega) (by rw [h.col]; decide) (by rw [h.col]; decide)]
    dsimp only
    rw [sta_here (by omega), sta_here (by omega), h.col, if_neg (by decide), if_neg (by decide)]
  refine ⟨3, (run_1 rfl e1).trans ((run_1 rfl e2).trans ?_)⟩
  rw [runW, hop]
  dsimp only
  rw [e3]
end
/-- The texts. -/
def lngT (c : Int) (n : Nat) (e : Int) : List Int := c :: (List.replicate n 120 ++ [58, 32, 98, e])
theorem lng_len (c : Int) (n : Nat) (e : Int) : (lngT c n e).length = n + 5 := by unfold lngT; simp
theorem rep_at (n : Nat) (X : List Int) (j : Nat) : (j < n → iAt (List.replicate n 120 ++ X) j = 120) ∧ iAt (List.replicate n 120 ++ X) (n + j) = iAt X j := by
  refine ⟨fun h => ?_, ?_⟩
  · unfold iAt
    rw [List.getElem?_append_left (by simpa using h)]
    simp [h]
  · unfold iAt
    rw [List.getElem?_append_right (by simp)]
    simp
theorem lng_at (c : Int) (n : Nat) (e : Int) (j : Nat) : iAt (lngT c n e) (1 + j) = iAt (List.replicate n 120 ++ [58, 32, 98, e]) j := by
  unfold lngT
  rw [Nat.add_comm]
  simp [iAt]
theorem lng_kv (c : Int) (n : Nat) (e : Int) (hn : 0 < n) : Kv (lngT c n e) 1 n e := by
  have hl := lng_len c n e
  refine ⟨hn, by omega, fun j hj => ?_, ?_, ?_, ?_, ?_⟩
  · rw [lng_at]; exact (rep_at n _ j).1 hj
  · rw [lng_at]; exact (rep_at n _ 0).2
  · rw [Nat.add_assoc, lng_at]; exact (rep_at n _ 1).2
  · rw [Nat.add_assoc, lng_at]; exact (rep_at n _ 2).2
  · rw [Nat.add_assoc, lng_at]; exact (rep_at n _ 3).2
theorem lng_mem {c : Int} {n : Nat} {e x : Int} (h : x ∈ lngT c n e) : x = c ∨ x = 120 ∨ x = 58 ∨ x = 32 ∨ x = 98 ∨ x = e := by
  unfold lngT at h
  rcases List.mem_cons.1 h with h | h
  · exact .inl h
  rcases List.mem_append.1 h with h | h
  · exact .inr (.inl (List.mem_replicate.1 h).2)
  · simp at h
    omega
theorem iAt_mem {t : List Int} {j : Nat} (h : j < t.length) : iAt t j ∈ t := by
  rw [show iAt t j = t[j] by simp [iAt, h]]
  exact List.getElem_mem h
theorem lng_one {c : Int} (n : Nat) {e : Int} (hc : c = 91 ∨ c = 123) (he : e = 93 ∨ e = 125) : lpsO (lngT c n e) = one (lngT c n e) := by
  refine lps_one (by rw [lng_len]; omega) (fun j hj => ?_) (by show c ≠ 32; omega)
  have := lng_mem (iAt_mem hj)
  have h7 : iAt (lngT c n e) j = 91 ∨ iAt (lngT c n e) j = 123 ∨ iAt (lngT c n e) j = 120 ∨ iAt (lngT c n e) j = 58 ∨ iAt (lngT c n e) j = 32 ∨ iAt (lngT c n e) j = 98 ∨ iAt (lngT c n e) j = 93 ∨ iAt (lngT c n e) j = 125 := by omega
  rcases h7 with h | h | h | h | h | h | h | h <;> rw [h] <;> decide
theorem ans_one {t : List Int} {d : Int} {f : Nat} (h0 : lpsO t = one t) : ansW t d f = match nodW orc (one t) (-1) d false f ⟨0, 0⟩ with
    | none => none
    | some (.error c) => some (c, 0, 0, [])
    | some (.ok s) => some (0, (s.p.i : Nat), colW (one t) s.p, s.to.filter nz) := by
  have hpl : plcP (one t) 0 0 = some ⟨0, 0⟩ := by
    unfold plcP one
    simp
  unfold ansW
  rw [h0, hpl]
  dsimp only
  cases nodW orc (one t) (-1) d false f ⟨0, 0⟩ with
  | none => rfl
  | some r => cases r <;> rfl
theorem long_brk (n : Nat) (hn : 0 < n) : (n > 1024 → ∃ f, ansW (lngT 91 n 93) 0 f = some (2, 0, 0, [])) ∧ (n ≤ 1024 → ∃ f i k ev, ansW (lngT 91 n 93) 0 f = some (0, i, k, ev) ∧ ev.length = 6) := by
  have hk := lng_kv 91 n 93 hn
  have h1 := lng_one n (c := 91) (e := 93) (.inl rfl) (.inl rfl)
  have hb : begW orc (one (lngT 91 n 93)) (-1) 0 false ⟨⟨0, 0⟩, [], [], 0⟩ = .ok ⟨⟨0, 1⟩, [⟨93, false, 0, 0, 0, 0, 0⟩], [⟨3, ⟨#[]⟩, hs0.tg, hs0.an, 0, true⟩], 0⟩ := (beg_open (by rw [lng_len]; omega) rfl (.inl rfl) _ rfl (-1)).trans rfl
  refine ⟨fun h => ?_, fun h => ?_⟩
  · obtain ⟨f, hf⟩ := hk.brkL h (-1)
    refine ⟨f, ?_⟩
    rw [ans_one h1]
    unfold nodW
    rw [hb]
    dsimp only
    rw [hf]
  · obtain ⟨f, s, hf, h6⟩ := hk.brk h (-1)
    refine ⟨f, ((s.p.i : Nat) : Int), colW (one (lngT 91 n 93)) s.p, s.to.filter nz, ?_, h6⟩
    rw [ans_one h1]
    unfold nodW
    rw [hb]
    dsimp only
    rw [hf]
theorem long_brc (n : Nat) (hn : 0 < n) : ∃ f i k ev, ansW (lngT 123 n 125) 0 f = some (0, i, k, ev) := by
  have hk := lng_kv 123 n 125 hn
  have h1 := lng_one n (c := 123) (e := 125) (.inr rfl) (.inr rfl)
  have hb : begW orc (one (lngT 123 n 125)) (-1) 0 false ⟨⟨0, 0⟩, [], [], 0⟩ = .ok ⟨⟨0, 1⟩, [⟨125, false, 0, 0, 0, 0, 0⟩], [⟨5, ⟨#[]⟩, hs0.tg, hs0.an, 0, true⟩], 0⟩ := (beg_open (by rw [lng_len]; omega) rfl (.inr rfl) _ rfl (-1)).trans rfl
  obtain ⟨f, s, hf⟩ := hk.brc (-1)
  refine ⟨f, ((s.p.i : Nat) : Int), colW (one (lngT 123 n 125)) s.p, s.to.filter nz, ?_⟩
  rw [ans_one h1]
  unfold nodW
  rw [hb]
  dsimp only
  rw [hf]
end Go.Proofs.YtipbhdhiklmieabGreatDoor
