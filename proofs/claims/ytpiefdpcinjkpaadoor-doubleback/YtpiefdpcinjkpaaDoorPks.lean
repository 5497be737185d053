/- A region that draws its order: what only looks may be taken first, also where one operation of the region, which waits for it, writes what is looked at. -/
import Derived.Test.YtpiefdpcinjkpaaDoorPick
set_option linter.unusedVariables false
set_option linter.unusedSimpArgs false
namespace Go.Proofs.YtpiefdpcinjkpaaDoor
open Go.RowKit

section
variable {F : Fence} {n : Nat} {P : Program} {ops : Array Oper} {Q : Exit → Act → World → Prop} {S : World → Prop} {s : Nat}

/-- Number x waits for number i. -/
def needs (ops : Array Oper) : Nat → Nat → Nat → Bool
  | 0, _, _ => false
  | f + 1, x, i => match ops[x]? with
    | none => false
    | some o => o.after.any fun e => Region.binds .any e && (e.on == i || needs ops f e.on i)

/-- Whatever is listed has all listed that it waits for. -/
def Closed (ops : Array Oper) (listed : Array Bool) : Prop := ∀ x o, listed.getD x false = true → ops[x]? = some o → ∀ e ∈ o.after, Region.binds .any e = true → listed.getD e.on false = true
def closedB (ops : Array Oper) (listed : Array Bool) : Bool := (List.range listed.size).all fun x => !listed.getD x false || match ops[x]? with
    | none => true
    | some o => o.after.all fun e => !Region.binds .any e || listed.getD e.on false
theorem closedB_spec {listed : Array Bool} (h : closedB ops listed = true) : Closed ops listed := by
  intro x o hx ho e he hb
  unfold closedB at h
  rw [List.all_eq_true] at h
  have hlt : x < listed.size := by
    rcases Nat.lt_or_ge x listed.size with h' | h'
    · exact h'
    · simp [Array.getElem?_eq_none h'] at hx
  have h1 := h x (List.mem_range.2 hlt)
  rw [ho, hx] at h1
  simp only [Bool.not_true, Bool.false_or] at h1
  have h2 := Array.all_eq_true_iff_forall_mem.1 h1 e he
  rw [hb] at h2
  simpa using h2
theorem Closed.add {listed : Array Bool} (h : Closed ops listed) {j : Nat} (hj : j ∈ Region.ready .any ops listed) : Closed ops (listed.setIfInBounds j true) := by
  obtain ⟨h0, o, ho, hall⟩ := mem_ready.1 hj
  have up : ∀ y, listed.getD y false = true → (listed.setIfInBounds j true).getD y false = true := by
    intro y hy
    by_cases e : j = y
    · subst e
      rcases Nat.lt_or_ge j listed.size with h' | h'
      · simp [h']
      · simp [Array.getElem?_eq_none h'] at hy
    · rw [getD_set_ne false e]; exact hy
  intro x ox hx hox e he hb
  by_cases e' : j = x
  · subst e'
    rw [ho] at hox
    cases hox
    exact up _ (hall e he hb)
  · rw [getD_set_ne false e'] at hx
    exact up _ (h x ox hx hox e he hb)
theorem needs_spec {listed : Array Bool} (h : Closed ops listed) {i : Nat} (hi : listed.getD i false = false) : ∀ (f x : Nat), needs ops f x i = true → listed.getD x false = false ∧ x ∉ Region.ready .any ops listed
  | 0, x, hx => by simp [needs] at hx
  | f + 1, x, hx => by
    unfold needs at hx
    cases ho : ops[x]? with
    | none => rw [ho] at hx; simp at hx
    | some o =>
      rw [ho] at hx
      obtain ⟨e, he, hb⟩ := Array.any_eq_true'.1 hx
      simp only [Bool.and_eq_true, Bool.or_eq_true, beq_iff_eq] at hb
      have hne : listed.getD e.on false = false := by
        rcases hb.2 with h1 | h1
        · rw [h1]; exact hi
        · exact (needs_spec h hi f e.on h1).1
      refine ⟨?_, fun hr => ?_⟩
      · cases hl : listed.getD x false with
        | false => rfl
        | true => rw [h x o hl ho e he hb.1] at hne; cases hne
      · obtain ⟨-, o', ho', hall⟩ := mem_ready.1 hr
        rw [ho] at ho'
        cases ho'
        rw [hall e he hb.1] at hne; cases hne

/-- Whatever comes up next, and S holds behind it, but for number s. -/
def Anys (F : Fence) (n : Nat) (P : Program) (ops : Array Oper) (Q : Exit → Act → World → Prop) (S : World → Prop) (s : Nat) : Nat → Array Bool → Act → World → Prop
  | 0, listed, a, w => Region.ready .any ops listed = [] ∧ Q .normal a w
  | k + 1, listed, a, w => (Region.ready .any ops listed = [] → Q .normal a w) ∧
      ∀ i ∈ Region.ready .any ops listed, wpOpIn F n P ops Q i (fun a' w' => (i ≠ s → S w') ∧ Anys F n P ops Q S s k (listed.setIfInBounds i true) a' w') a w

theorem Anys.plain : ∀ (k : Nat) (listed : Array Bool) (a : Act) (w : World), Anys F n P ops Q S s k listed a w → wpAnyIn F n P .any ops Q k listed a w
  | 0, _, _, _, h => h
  | k + 1, _, _, _, h => ⟨h.1, fun i hi => wpOpIn_mono (fun a' w' h' => Anys.plain k _ a' w' h'.2) (h.2 i hi)⟩

theorem unlisted {listed : Array Bool} {i : Nat} (h : listed.getD i true = false) : listed.getD i false = false := by
  rcases Nat.lt_or_ge i listed.size with h' | h'
  · simp [h'] at h ⊢; exact h
  · simp [Array.getElem?_eq_none h']

theorem Anys.first (hF : ∀ f, F.fn f) (hp : plainOps ops = true) {i : Nat} {oi : Oper} {v : Value} (hi : ops[i]? = some oi) (hQ : ∀ c a w, Q (.panic c) (a.put oi.dst v) w → Q (.panic c) a w) (hs : needs ops 20 s i = true) :
    ∀ (k : Nat) (listed : Array Bool) (a : Act) (w : World), Closed ops listed →
      (∀ j oj, ops[j]? = some oj → j ≠ i → listed.getD j true = false → (∀ e ∈ oj.after, Region.binds .any e = true → e.on ≠ i) → oi.apart ops oj = true) →
      i ∈ Region.ready .any ops listed → Tells P ops S oi v a → S w →
      Anys F n P ops Q S s k (listed.setIfInBounds i true) (a.put oi.dst v) w → Anys F n P ops Q S s (k + 1) listed a w
  | k, listed, a, w, hcl, hfree, hr, hy, hS, H => by
    refine ⟨fun h => (by rw [h] at hr; cases hr), fun j hj => ?_⟩
    by_cases hji : j = i
    · subst hji; exact hy.op hF hi (plainOps_at hp hi).1 hS ⟨fun _ => hS, H⟩
    · have hjs : j ≠ s := fun e => (needs_spec hcl (unlisted (mem_ready.1 hr).1) 20 s hs).2 (e ▸ hj)
      cases k with
      | zero => have := ready_mono hj hji; rw [H.1] at this; cases this
      | succ k =>
        obtain ⟨hjun, oj, hoj, hall⟩ := mem_ready.1 hj
        have hnot : ∀ e ∈ oj.after, Region.binds .any e = true → e.on ≠ i := fun e he hb heq => by
          have h1 := hall e he hb
          have h0 := (mem_ready.1 hr).1
          rw [heq] at h1
          rcases Nat.lt_or_ge i listed.size with h' | h'
          · simp [h'] at h0 h1; rw [h0] at h1; cases h1
          · simp [Array.getElem?_eq_none h'] at h1
        have h2 := op_later hF hoj (hfree j oj hoj hji hjun hnot) (plainOps_at hp hi) (plainOps_at hp hoj) hQ hy (H.2 j (ready_mono hj hji))
        refine wpOpIn_mono (fun a' w' h3 => ⟨h3.2.1, Anys.first hF hp hi hQ hs k _ a' w' (hcl.add hj) (fun x ox hx hxi hun hno => hfree x ox hx hxi ?_ hno) (ready_mono hr (Ne.symm hji)) h3.1 (h3.2.1 hjs) ?_⟩) h2
        · by_cases hjx : j = x
          · subst hjx; exact hjun
          · rw [getD_set_ne true hjx] at hun; exact hun
        · rw [Array.setIfInBounds_comm _ _ hji]; exact h3.2.2

/-- Number i is taken first. -/
theorem Anys.take (hF : ∀ f, F.fn f) {i : Nat} {oi : Oper} {v : Value} {k : Nat} {listed : Array Bool} {a : Act} {w : World} (hi : ops[i]? = some oi) (hp : plainOps ops = true) (hc : closedB ops listed = true) (hs : needs ops 20 s i = true) (hf : Region.free .any ops listed i = true)
    (hr : (Region.ready .any ops listed).contains i = true) (hQ : ∀ c a w, Q (.panic c) (a.put oi.dst v) w → Q (.panic c) a w) (hy : Tells P ops S oi v a) (hS : S w)
    (h : Anys F n P ops Q S s k (listed.setIfInBounds i true) (a.put oi.dst v) w) : Anys F n P ops Q S s (k + 1) listed a w :=
  Anys.first hF hp hi hQ hs k listed a w (closedB_spec hc) (Region.free_spec hi hf) (by simpa using hr) hy hS h

/-- One alone may come up. -/
theorem Anys.one {i : Nat} {o : Oper} {k : Nat} {listed : Array Bool} {a : Act} {w : World} (hr : Region.ready .any ops listed = [i]) (ho : ops[i]? = some o) (hw : Region.wanted o (yielded ops a.tmps) = true)
    (h : ∀ K : Act → World → Prop, (∀ a' w', (i ≠ s → S w') → Anys F n P ops Q S s k (listed.setIfInBounds i true) a' w' → K a' w') → Oper.wpIn F n P o a w K Q) : Anys F n P ops Q S s (k + 1) listed a w := by
  refine ⟨fun h0 => (by rw [hr] at h0; cases h0), fun j hj => ?_⟩
  rw [hr] at hj
  obtain rfl : j = i := by simpa using hj
  refine wpOpIn_step ho fun K hK => ?_
  rw [if_pos hw]
  exact h K fun a' w' h1 h2 => hK a' w' ⟨h1, h2⟩

theorem Anys.done {k : Nat} {listed : Array Bool} {a : Act} {w : World} (hr : Region.ready .any ops listed = []) (h : Q .normal a w) : Anys F n P ops Q S s k listed a w := by
  cases k with
  | zero => exact ⟨hr, h⟩
  | succ k => exact ⟨fun _ => h, by rw [hr]; simp⟩

theorem region_picks {id : Nat} {a : Act} {w : World} (S : World → Prop) (s : Nat) (hm : P.follows .mixedOrders = true)
    (h : Anys F n P ops (nrm Q) S s ops.size (Array.replicate ops.size false) a w.drew) : (Code.region id ops true).wpIn F n P Q a w :=
  Go.wpIn_mono (wpIn_region_any hm (Anys.plain _ _ _ _ h)) fun e a w hq => by
    cases e with
    | normal => exact hq
    | _ => exact hq.elim
end
end Go.Proofs.YtpiefdpcinjkpaaDoor
