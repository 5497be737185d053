/- The document's own Points is the code's. -/
import Derived.Test.YtdkodepeglpimaaDoorLink
import Derived.Test.YtdkodepeglpimaaDoorRefForm
set_option linter.unusedVariables false
set_option linter.unusedSimpArgs false
namespace Go.Proofs.YtdkodepeglpimaaDoor
open Go.RowKit Go.Shelf

theorem ret_vi {v : Value} {k : IntKind} {a b : Int} (h : a = b) : Ending.returned (.tuple #[v, .int k a]) = .returned (.tuple #[v, .int k b]) := by rw [h]

/-- What is told. -/
def PRes (r : Bool) (ps : List Int) (ec : Int) (v : Value) (base : Nat) (W' : World) : Prop :=
  (r = true ∧ ec = 0 ∧ W'.ownsRow base 3 1 v ps.length (ps.map (.int .i64))) ∨ (r = false ∧ ec = 4 ∧ v = .slice none 0 0)
theorem PRes.yes {ps : List Int} {v : Value} {base : Nat} {W' : World} (h : W'.ownsRow base 3 1 v ps.length (ps.map (.int .i64))) : PRes true ps 0 v base W' := .inl ⟨rfl, rfl, h⟩
theorem PRes.no {ps : List Int} {base : Nat} {W' : World} : PRes false ps 4 (.slice none 0 0) base W' := .inr ⟨rfl, rfl, rfl⟩

set_option maxRecDepth 100000 in
set_option maxHeartbeats 1000000 in
theorem refPts_one (p q : Option Addr) (len cap m : Nat) (bs : List UInt8) (w : World) (h : (len : Int) ≤ 1048576) (hbl : (bs.length : Int) ≤ 1048576) (hcm : bs.length ≤ cap - m) (hc : cap ≤ maxLen)
    (hF : Calls Tryd.prog 12 #[.slice p len cap] w fun e w' => e = .returned (.tuple #[.int .i64 1, .int .i64 m]) ∧ Below w.heap.size w w')
    (hsl : ∀ w2, (Instr.slice 22 (.slice p len cap) (some (.int .i64 m)) none none).run Tryd.prog w2 = .ok (.slice q bs.length (cap - m)) w2)
    (hL : Bs w q bs) (hq : ∀ a, q = some a → 0 < bs.length → a.block < w.heap.size) :
    Calls Tryd.prog 10 #[.slice p len cap] w fun e w' => ∃ v ec, e = .returned (.tuple #[v, .int .i64 ec]) ∧ Below w.heap.size w w' ∧
      PRes (rightP 1 bs) (ptsP 1 bs) ec v w.heap.size w' := by
  have S := fun W (hB : Below w.heap.size w W) => small_any q bs (cap - m) W hbl hcm (by omega) (hL.below hq hB) (fun a e hh => by have := hq a e hh; have := hB.size; omega)
  unfold maxLen at hc
  cases hr : rightP 1 bs
  · have HR : Hid (rightP 1 bs = false) := hr
    rw [hr] at S
    have HS := fun W hB => S W hB
    clear S hr hL hq
    go_enter Tryd.func10, Tryd.ntmps10
    go_wp2_with (first | (go_at_call 12; refine hF.mono ?_; rintro e w1 ⟨rfl, hb⟩) | (go_at_call 18; refine (HS _ hb).mono ?_; rintro e w2 ⟨v, rfl, ho, hb2⟩))
    go_ret2
    exact ⟨_, _, rfl, hb.trans (hb2.mono hb.size), PRes.no⟩
  · rw [hr] at S
    have hres : resP 1 bs = ptsP 1 bs := by unfold resP; rw [if_pos hr]
    rw [hres] at S
    have HS := fun W hB => S W hB
    clear S hr hL hq hres
    go_enter Tryd.func10, Tryd.ntmps10
    go_wp2_with (first | (go_at_call 12; refine hF.mono ?_; rintro e w1 ⟨rfl, hb⟩) | (go_at_call 18; refine (HS _ hb).mono ?_; rintro e w2 ⟨v, rfl, ho, hb2⟩))
    go_ret2
    exact ⟨_, _, rfl, hb.trans (hb2.mono hb.size), PRes.yes (ownsRow_mono ho hb.size)⟩

set_option maxRecDepth 100000 in
set_option maxHeartbeats 1000000 in
theorem refPts_two (p q : Option Addr) (len cap m : Nat) (bs : List UInt8) (w : World) (h : (len : Int) ≤ 1048576) (hbl : (bs.length : Int) ≤ 1048576) (hcm : bs.length ≤ cap - m) (hc : cap ≤ maxLen)
    (hF : Calls Tryd.prog 12 #[.slice p len cap] w fun e w' => e = .returned (.tuple #[.int .i64 2, .int .i64 m]) ∧ Below w.heap.size w w')
    (hsl : ∀ w2, (Instr.slice 22 (.slice p len cap) (some (.int .i64 m)) none none).run Tryd.prog w2 = .ok (.slice q bs.length (cap - m)) w2)
    (hL : Bs w q bs) (hq : ∀ a, q = some a → 0 < bs.length → a.block < w.heap.size) :
    Calls Tryd.prog 10 #[.slice p len cap] w fun e w' => ∃ v ec, e = .returned (.tuple #[v, .int .i64 ec]) ∧ Below w.heap.size w w' ∧
      PRes (rightP 2 bs) (ptsP 2 bs) ec v w.heap.size w' := by
  obtain ⟨r, hr⟩ : ∃ r, rightP 2 bs = r := ⟨_, rfl⟩
  obtain ⟨ps, hps⟩ : ∃ ps, ptsP 2 bs = ps := ⟨_, rfl⟩
  obtain ⟨t1, t2⟩ := link16 2 true fp2 bs.length bs (Nat.le_refl _)
  rw [hr] at t1
  rw [hr, hps]
  have HT : Hid (r = (decide (bs.length % 2 = 0) && rightU (unitsL true bs))) := t1
  have HP : Hid (r = true → ps = (seqU 0 (unitsL true bs)).map (·.1)) := fun e => hps.symm.trans (t2 (by rw [← t1]; exact e))
  have S := fun W (hB : Below w.heap.size w W) => units2_true q bs (cap - m) W hbl (hL.below hq hB) (fun a e hh => by have := hq a e hh; have := hB.size; omega)
  have hul : (unitsL true bs).length = bs.length / 2 := by rw [← units2_all, units2_len]
  rw [units2_all] at S
  have HB := unitsL_bound true bs
  have PA := fun (a : Option Addr) (c : Nat) W (hI : Is W a (unitsL true bs)) (ha : ∀ x, a = some x → x.block < W.heap.size) => pairs_any a (unitsL true bs) c W (by omega) HB hI ha
  clear hr hps t1 t2 hL hq
  unfold maxLen at hc
  generalize hU : unitsL true bs = us at S HT HP hul PA HB
  clear hU HB
  by_cases he : bs.length % 2 = 0
  · have hd : decide (bs.length % 2 = 0) = true := decide_eq_true he
    have hT : r = rightU us := by have := HT.out; rw [hd, Bool.true_and] at this; exact this
    rw [hd] at S
    rw [← hul] at S
    rw [← hT] at PA
    have HT2 : Hid (r = rightU us) := hT
    clear HT hd hT he hul
    cases r
    · go_enter Tryd.func10, Tryd.ntmps10
      go_wp2_with (first | (go_at_call 12; refine hF.mono ?_; rintro e w1 ⟨rfl, hb⟩) | (go_at_call 19; refine (S _ hb).mono ?_; rintro e w2 ⟨v, rfl, ho, hb2⟩; obtain ⟨a, k, c, rfl⟩ := ownsRow_form ho; obtain ⟨hI, hk, -, -, -⟩ := is_of_row ho; subst hk; have hlt := ho.lt) | (go_at_call 20; refine (PA _ _ _ hI (fun x e => by subst e; exact (hlt x.block rfl).2)).mono ?_; rintro e w3 ⟨v3, rfl, ho3, hb3⟩))
      go_ret2
      exact ⟨_, _, rfl, (hb.trans (hb2.mono hb.size)).trans (hb3.mono (Nat.le_trans hb.size hb2.size)), PRes.no⟩
    · have hps : ps = resU us := by rw [HP.out rfl]; unfold resU; rw [← HT2.out]; rfl
      rw [← hps] at PA
      clear hps
      go_enter Tryd.func10, Tryd.ntmps10
      go_wp2_with (first | (go_at_call 12; refine hF.mono ?_; rintro e w1 ⟨rfl, hb⟩) | (go_at_call 19; refine (S _ hb).mono ?_; rintro e w2 ⟨v, rfl, ho, hb2⟩; obtain ⟨a, k, c, rfl⟩ := ownsRow_form ho; obtain ⟨hI, hk, -, -, -⟩ := is_of_row ho; subst hk; have hlt := ho.lt) | (go_at_call 20; refine (PA _ _ _ hI (fun x e => by subst e; exact (hlt x.block rfl).2)).mono ?_; rintro e w3 ⟨v3, rfl, ho3, hb3⟩))
      go_ret2
      exact ⟨_, _, rfl, (hb.trans (hb2.mono hb.size)).trans (hb3.mono (Nat.le_trans hb.size hb2.size)), PRes.yes (ownsRow_mono ho3 (Nat.le_trans hb.size hb2.size))⟩
  · have hd : decide (bs.length % 2 = 0) = false := decide_eq_false he
    have hT : r = false := by have := HT.out; rw [hd, Bool.false_and] at this; exact this
    subst hT
    rw [hd] at S
    clear HT HP hd PA he hul
    go_enter Tryd.func10, Tryd.ntmps10
    go_wp2_with (first | (go_at_call 12; refine hF.mono ?_; rintro e w1 ⟨rfl, hb⟩) | (go_at_call 19; refine (S _ hb).mono ?_; rintro e w2 ⟨v, rfl, ho, hb2⟩))
    go_ret2
    exact ⟨_, _, rfl, hb.trans (hb2.mono hb.size), PRes.no⟩

set_option maxRecDepth 100000 in
set_option maxHeartbeats 1000000 in
theorem refPts_three (p q : Option Addr) (len cap m : Nat) (bs : List UInt8) (w : World) (h : (len : Int) ≤ 1048576) (hbl : (bs.length : Int) ≤ 1048576) (hcm : bs.length ≤ cap - m) (hc : cap ≤ maxLen)
    (hF : Calls Tryd.prog 12 #[.slice p len cap] w fun e w' => e = .returned (.tuple #[.int .i64 3, .int .i64 m]) ∧ Below w.heap.size w w')
    (hsl : ∀ w2, (Instr.slice 22 (.slice p len cap) (some (.int .i64 m)) none none).run Tryd.prog w2 = .ok (.slice q bs.length (cap - m)) w2)
    (hL : Bs w q bs) (hq : ∀ a, q = some a → 0 < bs.length → a.block < w.heap.size) :
    Calls Tryd.prog 10 #[.slice p len cap] w fun e w' => ∃ v ec, e = .returned (.tuple #[v, .int .i64 ec]) ∧ Below w.heap.size w w' ∧
      PRes (rightP 3 bs) (ptsP 3 bs) ec v w.heap.size w' := by
  obtain ⟨r, hr⟩ : ∃ r, rightP 3 bs = r := ⟨_, rfl⟩
  obtain ⟨ps, hps⟩ : ∃ ps, ptsP 3 bs = ps := ⟨_, rfl⟩
  obtain ⟨t1, t2⟩ := link16 3 false fp3 bs.length bs (Nat.le_refl _)
  rw [hr] at t1
  rw [hr, hps]
  have HT : Hid (r = (decide (bs.length % 2 = 0) && rightU (unitsL false bs))) := t1
  have HP : Hid (r = true → ps = (seqU 0 (unitsL false bs)).map (·.1)) := fun e => hps.symm.trans (t2 (by rw [← t1]; exact e))
  have S := fun W (hB : Below w.heap.size w W) => units2_false q bs (cap - m) W hbl (hL.below hq hB) (fun a e hh => by have := hq a e hh; have := hB.size; omega)
  have hul : (unitsL false bs).length = bs.length / 2 := by rw [← units2_all, units2_len]
  rw [units2_all] at S
  have HB := unitsL_bound false bs
  have PA := fun (a : Option Addr) (c : Nat) W (hI : Is W a (unitsL false bs)) (ha : ∀ x, a = some x → x.block < W.heap.size) => pairs_any a (unitsL false bs) c W (by omega) HB hI ha
  clear hr hps t1 t2 hL hq
  unfold maxLen at hc
  generalize hU : unitsL false bs = us at S HT HP hul PA HB
  clear hU HB
  by_cases he : bs.length % 2 = 0
  · have hd : decide (bs.length % 2 = 0) = true := decide_eq_true he
    have hT : r = rightU us := by have := HT.out; rw [hd, Bool.true_and] at this; exact this
    rw [hd] at S
    rw [← hul] at S
    rw [← hT] at PA
    have HT2 : Hid (r = rightU us) := hT
    clear HT hd hT he hul
    cases r
    · go_enter Tryd.func10, Tryd.ntmps10
      go_wp2_with (first | (go_at_call 12; refine hF.mono ?_; rintro e w1 ⟨rfl, hb⟩) | (go_at_call 19; refine (S _ hb).mono ?_; rintro e w2 ⟨v, rfl, ho, hb2⟩; obtain ⟨a, k, c, rfl⟩ := ownsRow_form ho; obtain ⟨hI, hk, -, -, -⟩ := is_of_row ho; subst hk; have hlt := ho.lt) | (go_at_call 20; refine (PA _ _ _ hI (fun x e => by subst e; exact (hlt x.block rfl).2)).mono ?_; rintro e w3 ⟨v3, rfl, ho3, hb3⟩))
      go_ret2
      exact ⟨_, _, rfl, (hb.trans (hb2.mono hb.size)).trans (hb3.mono (Nat.le_trans hb.size hb2.size)), PRes.no⟩
    · have hps : ps = resU us := by rw [HP.out rfl]; unfold resU; rw [← HT2.out]; rfl
      rw [← hps] at PA
      clear hps
      go_enter Tryd.func10, Tryd.ntmps10
      go_wp2_with (first | (go_at_call 12; refine hF.mono ?_; rintro e w1 ⟨rfl, hb⟩) | (go_at_call 19; refine (S _ hb).mono ?_; rintro e w2 ⟨v, rfl, ho, hb2⟩; obtain ⟨a, k, c, rfl⟩ := ownsRow_form ho; obtain ⟨hI, hk, -, -, -⟩ := is_of_row ho; subst hk; have hlt := ho.lt) | (go_at_call 20; refine (PA _ _ _ hI (fun x e => by subst e; exact (hlt x.block rfl).2)).mono ?_; rintro e w3 ⟨v3, rfl, ho3, hb3⟩))
      go_ret2
      exact ⟨_, _, rfl, (hb.trans (hb2.mono hb.size)).trans (hb3.mono (Nat.le_trans hb.size hb2.size)), PRes.yes (ownsRow_mono ho3 (Nat.le_trans hb.size hb2.size))⟩
  · have hd : decide (bs.length % 2 = 0) = false := decide_eq_false he
    have hT : r = false := by have := HT.out; rw [hd, Bool.false_and] at this; exact this
    subst hT
    rw [hd] at S
    clear HT HP hd PA he hul
    go_enter Tryd.func10, Tryd.ntmps10
    go_wp2_with (first | (go_at_call 12; refine hF.mono ?_; rintro e w1 ⟨rfl, hb⟩) | (go_at_call 19; refine (S _ hb).mono ?_; rintro e w2 ⟨v, rfl, ho, hb2⟩))
    go_ret2
    exact ⟨_, _, rfl, hb.trans (hb2.mono hb.size), PRes.no⟩

end Go.Proofs.YtdkodepeglpimaaDoor
